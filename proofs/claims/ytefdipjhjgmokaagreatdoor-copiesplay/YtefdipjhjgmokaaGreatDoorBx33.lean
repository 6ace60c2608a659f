/-
  (*roref.Copies).Now: a replica from the beginning on.
-/
import Derived.Test.YtefdipjhjgmokaaGreatDoorBx30
import Derived.Test.YtefdipjhjgmokaaGreatDoorBx32
import Derived.Deep.RegionHeld3
import Derived.Deep.RegionLaw
set_option linter.unusedVariables false
set_option linter.unusedSimpArgs false
namespace Go.Proofs.YtefdipjhjgmokaaGreatDoor
open Go.RowKit Go.WideMaps Go.Maps

/-- the first state of a replica -/
def Rc.r0 (c : Rc) : Sr := ⟨valOf c.l, c.m.cs, c.m.os, []⟩
/-- what Now hands back -/
def RetRnw (w0 w : World) (s : Sr) (e : Ending) (w' : World) : Prop :=
  ∃ (b n : Nat) (m : Mp) (A : Option Addr) (cA : Nat), e = .returned (.tuple #[.map (some b), .agg #[.slice m.A m.cs.length m.ca, .slice m.O m.os.length m.co], .slice A s.bs.length cA]) ∧ MV w' b n s.v ∧ n ≤ 450000000 ∧ MS w0 m ∧ m.cs = s.cs ∧ m.os = s.os ∧
    OR w' w.heap.size 4 A cA (s.bs.map Value.bool) ∧ Below w.heap.size w w'
theorem RetRnw.drew {w0 w W : World} {s : Sr} {e : Ending} (h : RetRnw w0 w s e W) : RetRnw w0 w s e W.drew := by
  obtain ⟨b, n, m, A, cA, he, h1, h2, h3, h4, h5, h6, h7⟩ := h
  have bd := (Below.refl W.heap.size W).drew
  exact ⟨b, n, m, A, cA, he, h1.below bd, h2, h3, h4, h5, h6.below bd, h7.trans (bd.mono h7.size)⟩
/-- while entries are executed -/
structure RnwH (w0 wi : World) (N0 : Nat) (r0 : Sr) (es : List Ent) (gm gr k b n : Nat) (m : Mp) (Ao : Option Addr) (co : Nat) (A : Option Addr) (cA : Nat) (xs : List Em) (wr : World) : Prop where
  mv : MV wr b n (playR r0 (es.take k)).v
  vb : ∀ x, valB ((playR r0 (es.take k)).v x) = true
  nle : n ≤ N0 + 16 * k
  x0 : Box wr gm 34 #[.slice m.A m.cs.length m.ca, .slice m.O m.os.length m.co]
  xr : Box wr gr 34 #[.slice none 0 0, .slice none 0 0]
  ms : MS w0 m
  cs : m.cs = (playR r0 (es.take k)).cs
  os : m.os = (playR r0 (es.take k)).os
  ob : OR wr wi.heap.size 4 Ao co ((playR r0 (es.take k)).bs.map Value.bool)
  lo : wi.heap.size ≤ gm
  lr : wi.heap.size ≤ gr
  ne : gm ≠ gr
  er : ER w0 wr wi.heap.size A cA xs
  be : Below wi.heap.size wi wr
section
variable {w0 wi wr w1 w' : World} {N0 gm gr k b b1 n n1 co cA : Nat} {r0 : Sr} {es : List Ent} {xs : List Em} {m m1 : Mp} {Ao A : Option Addr}
theorem RnwH.below (h : RnwH w0 wi N0 r0 es gm gr k b n m Ao co A cA xs wr) (hb : Below wr.heap.size wr w') : RnwH w0 wi N0 r0 es gm gr k b n m Ao co A cA xs w' :=
  ⟨h.mv.below hb, h.vb, h.nle, h.x0.below hb, h.xr.below hb, h.ms, h.cs, h.os, h.ob.below hb, h.lo, h.lr, h.ne, h.er.below hb, h.be.trans (hb.mono h.be.size)⟩
/-- a result is written down -/
theorem RnwH.told (h : RnwH w0 wi N0 r0 es gm gr k b n m Ao co A cA xs wr) (hl : k ≤ 100000) (h0 : r0.bs = []) {x : Ent} {bv : Bool} (hf : Fr (fun q => q = gm) wr w1) (hk : es[k]? = some x) (hm : MV w1 b1 n1 (stepR (playR r0 (es.take k)) x).v)
    (hv : ∀ y, valB ((stepR (playR r0 (es.take k)) x).v y) = true) (hn : n1 ≤ N0 + 16 * (k + 1)) (hx : Box w1 gm 34 #[.slice m1.A m1.cs.length m1.ca, .slice m1.O m1.os.length m1.co]) (hms : MS w0 m1)
    (hcs : m1.cs = (stepR (playR r0 (es.take k)) x).cs) (hos : m1.os = (stepR (playR r0 (es.take k)) x).os) (hb : doneE (playR r0 (es.take k)).v x = bv) (ty : TypeId) :
    ∃ Ao' co' w', (Builtin.append_ #[90, 90] ty #[.slice Ao k co, .slice (some ⟨w1.heap.size, 0, none⟩) 1 1]).run Tryz.prog (w1.alloc (.cells #[.bool bv] 4)) = .ok (.slice Ao' (k + 1) co') w' ∧ RnwH w0 wi N0 r0 es gm gr (k + 1) b1 n1 m1 Ao' co' A cA xs w' := by
  obtain ⟨hkl, hxe⟩ := List.getElem?_eq_some_iff.1 hk
  have hbl : (playR r0 (es.take k)).bs.length = k := by rw [playR_len, h0, List.length_take]; simp; omega
  have hbe1 : Below wi.heap.size wi w1 := hf.below (fun q hq => by rw [hq]; exact h.lo) h.be.size h.be
  have hob1 : OR w1 wi.heap.size 4 Ao co ((playR r0 (es.take k)).bs.map Value.bool) := hf.own_ty h.ob fun q hq _ => ⟨34, by have hq' : q = gm := hq; rw [hq']; exact h.x0.ty, by decide⟩
  have hxr1 : Box w1 gr 34 #[.slice none 0 0, .slice none 0 0] := hf.box h.xr fun e => h.ne e.symm
  obtain ⟨Ao', co', w2, hrun, hOR, hbel, hgr, h5⟩ := app_row (P := Tryz.prog) Tryz.underlying90 boolInfo rfl w1 wi.heap.size ty Ao co _ hob1 [.bool bv] (by simp [Value.oneCell']) (by rw [List.length_map, hbl]; simp only [List.length_singleton]; omega) (by decide) hbe1.size
  have hst : playR r0 (es.take (k + 1)) = stepR (playR r0 (es.take k)) x := by rw [playR_take r0 es k hkl, hxe]
  have hbs : (playR r0 (es.take k)).bs.map Value.bool ++ [.bool bv] = (stepR (playR r0 (es.take k)) x).bs.map Value.bool := by rw [stepR_bs, hb]; simp
  have hl2 : (stepR (playR r0 (es.take k)) x).bs.length = k + 1 := by rw [stepR_bs, List.length_append, hbl]; rfl
  rw [hbs] at hrun hOR
  rw [List.length_map, List.length_map, hbl, hl2] at hrun
  rw [ownBlock_slice] at hgr
  have hal := (Below.refl w1.heap.size w1).alloc (Nat.le_refl _) (.cells #[.bool bv] 4)
  have f2 : Fr (fun q => blk Ao = some q) w1 w2 := (Fr.of_below hal).comp (Fr.of_grown hgr fun q hq => hq)
  have tb : ∀ q, blk Ao = some q → Ty w1 q 4 := fun q hq => own_ty hob1 (bo _ _ hq)
  refine ⟨Ao', co', w2, hrun, hst ▸ hm.fr f2 (fun e => hm.nty (tb _ e) rfl), hst ▸ hv, hn, f2.box hx (fun e => absurd ((tb _ e).inj hx.ty) (by decide)), f2.box hxr1 (fun e => absurd ((tb _ e).inj hxr1.ty) (by decide)), hms, hst ▸ hcs, hst ▸ hos, hst ▸ hOR, h.lo, h.lr, h.ne, ⟨f2.own_ty (hf.own_ty h.er.row fun q hq _ => ⟨34, by have hq' : q = gm := hq; rw [hq']; exact h.x0.ty, by decide⟩) (fun q hq _ => ⟨_, tb q hq, by decide⟩), h.er.es⟩, hbel _ _ (Nat.le_refl _) hbe1⟩
theorem RnwH.first (mv : MV wr b n r0.v) (vb : ∀ y, valB (r0.v y) = true) (x0 : Box wr gm 34 #[.slice m.A m.cs.length m.ca, .slice m.O m.os.length m.co]) (xr : Box wr gr 34 #[.slice none 0 0, .slice none 0 0]) (ms : MS w0 m) (cs : m.cs = r0.cs) (os : m.os = r0.os) (h0 : r0.bs = [])
    (lo : wi.heap.size ≤ gm) (lr : wi.heap.size ≤ gr) (ne : gm ≠ gr) (er : ER w0 wr wi.heap.size A cA xs) (be : Below wi.heap.size wi wr) : RnwH w0 wi n r0 es gm gr 0 b n m none 0 A cA xs wr := by
  have e : playR r0 (es.take 0) = r0 := by rw [List.take_zero]; rfl
  refine ⟨by rw [e]; exact mv, by rw [e]; exact vb, by omega, x0, xr, ms, by rw [e]; exact cs, by rw [e]; exact os, ?_, lo, lr, ne, er, be⟩
  rw [e, h0]
  exact OR.nil _ _ _
end
def RnwI (w0 wi : World) (N0 : Nat) (r0 : Sr) (es : List Ent) (gm gr t : Nat) (A : Option Addr) (cA : Nat) (xs : List Em) (v7 v9 i : Value) (wr : World) : Prop :=
  ∃ (k b n : Nat) (m : Mp) (Ao : Option Addr) (co : Nat), k ≤ t ∧ i = .int .i64 k ∧ v7 = .map (some b) ∧ v9 = .slice Ao k co ∧ RnwH w0 wi N0 r0 es gm gr k b n m Ao co A cA xs wr
theorem ok_vb {l : List Pr} (h : Ok l) (k : ByteArray) : valB (valOf l k) = true := by
  by_cases e : valOf l k = 0
  · rw [e]; rfl
  · obtain ⟨p, hp, hk⟩ := valOf_ne e
    rw [← hk, valOf_mem h.srt hp]
    exact h.val p hp
set_option maxHeartbeats 4000000 in
set_option maxRecDepth 100000 in
theorem rnow_any (c : Rc) (w0 : World) (B i k : Nat) (w : World) (h : c.Ok w0 w B) (hi : c.dn[i]? = some k) (hle : k ≤ (logM c.r.ct).length) (hck : ∀ e ∈ logM c.r.ct, chkE e = 0) (hlm : (logM c.r.ct).length ≤ 3600) :
    Calls Tryz.prog 62 #[.pointer (some ⟨c.gc, 0, none⟩), .int .i64 (i : Int)] w (RetRnw w0 w (playR c.r0 ((logM c.r.ct).take k))) := by
  obtain ⟨hil, hik⟩ := List.getElem?_eq_some_iff.1 hi
  obtain ⟨gd, hAD, _, hcd, _⟩ := h.set_ hil 0
  rw [hik] at hcd
  have hgl : gd < w.heap.size := cell_lt hcd
  have HC := hideP (fun (W : World) (hb : Below w.heap.size w W) => show (W.cell? ⟨c.gc, 0, none⟩ = some (.pointer (some ⟨c.r.g, 0, none⟩)) ∧ W.cell? ⟨c.gc, 4, none⟩ = some (.slice (some ⟨gd, 0, none⟩) c.dn.length c.cD)) ∧ W.cell? ⟨gd, i, none⟩ = some (.int .i64 (k : Int)) from by
    have hx := (h.below hb).box
    exact ⟨⟨hx.cell 0 rfl, by rw [← hAD]; exact hx.cell 4 rfl⟩, (hb.cell hgl).trans hcd⟩)
  have c1 := h.box.cell 1 (v := .slice c.m.A c.m.cs.length c.m.ca) rfl
  have c2 := h.box.cell 2 (v := .slice c.m.O c.m.os.length c.m.co) rfl
  have c3 := h.box.cell 3 (v := .map (some c.mb)) rfl
  have al := (Below.refl w.heap.size w).alloc (Nat.le_refl _) (.cells #[.slice none 0 0, .slice none 0 0] 34)
  have xr := Box.new w 34 #[.slice none 0 0, .slice none 0 0]
  have HLG := hideP (fun (W : World) (hb : Below w.heap.size w W) => rlog_any c.r w0 B W (h.ro.below hb))
  have hgcl := h.box.lt
  have d1 := (al.cell (p := ⟨c.gc, 1, none⟩) hgcl).trans c1
  have d2 := (al.cell (p := ⟨c.gc, 2, none⟩) hgcl).trans c2
  have d3 := (al.cell (p := ⟨c.gc, 3, none⟩) hgcl).trans c3
  have hr0 : c.r0.bs = [] := rfl
  have HM := hideP (show MV w c.mb c.n c.r0.v ∧ (∀ y, valB (c.r0.v y) = true) ∧ MS w0 c.m ∧ c.m.cs = c.r0.cs ∧ c.m.os = c.r0.os ∧ c.n ≤ 400000000 ∧ Below w0.heap.size w0 w ∧ w0.heap.size ≤ w.heap.size from ⟨h.mv, ok_vb h.okl, h.ms, rfl, rfl, h.nle, h.ro.be, Nat.le_trans h.ro.lb h.ro.size⟩)
  have HCK := hideP hck
  have hdl : i < c.dn.length := hil
  generalize c.r0 = r0 at HM hr0 ⊢
  generalize logM c.r.ct = es at HLG HCK hle hlm ⊢
  generalize c.r.g = g at HC HLG
  generalize c.dn.length = dl at HC hdl
  generalize c.gc = gc at HC d1 d2 d3 ⊢
  have g1 : (0 : Int) ≤ (i : Int) := by omega
  have g2 : (i : Int) < (dl : Int) := by omega
  clear h hi hck c1 c2 c3 hgcl hik hil hAD hcd hgl
  go_enter Tryz.func62, Tryz.ntmps62
  go_wp2_with fail
  generalize hgr : w.heap.size = gr at xr
  generalize hw1 : w.alloc _ = w1 at al xr d1 d2 d3 ⊢
  have al2 := (Below.refl w1.heap.size w1).alloc (Nat.le_refl _) (.cells #[.slice none 0 0, .slice none 0 0] 34)
  have e1 := (al2.cell (p := ⟨gc, 1, none⟩) (cell_lt d1)).trans d1
  have e2 := (al2.cell (p := ⟨gc, 2, none⟩) (cell_lt d2)).trans d2
  have e3 := (al2.cell (p := ⟨gc, 3, none⟩) (cell_lt d3)).trans d3
  go_region
  go_wp2_with fail
  have xm : Box (w1.alloc (.cells #[.slice c.m.A c.m.cs.length c.m.ca, .slice c.m.O c.m.os.length c.m.co] 34)).drew w1.heap.size 34 #[.slice c.m.A c.m.cs.length c.m.ca, .slice c.m.O c.m.os.length c.m.co] := (Box.new w1 34 _).drew
  have b2 : Below w.heap.size w (w1.alloc (.cells #[.slice c.m.A c.m.cs.length c.m.ca, .slice c.m.O c.m.os.length c.m.co] 34)).drew := al.trans ((((Below.refl w1.heap.size w1).alloc (Nat.le_refl _) _).drew).mono al.size)
  have xr2 : Box (w1.alloc (.cells #[.slice c.m.A c.m.cs.length c.m.ca, .slice c.m.O c.m.os.length c.m.co] 34)).drew gr 34 #[.slice none 0 0, .slice none 0 0] := (xr.alloc _).drew
  have hne : w1.heap.size ≠ gr := by have := xr.lt; omega
  have hgm1 : w.heap.size ≤ w1.heap.size := al.size
  have hgr1 : w.heap.size ≤ gr := by omega
  generalize w1.heap.size = gm at xm hne hgm1 ⊢
  generalize (w1.alloc (.cells #[.slice c.m.A c.m.cs.length c.m.ca, .slice c.m.O c.m.os.length c.m.co] 34)).drew = w2 at xm xr2 b2 ⊢
  clear al xr d1 d2 d3 al2 e1 e2 e3 hw1 hgr
  have b2d : Below w.heap.size w w2.drew := b2.drew
  have HL := hideP (HLG.out w2.drew b2d)
  have k1 := HC.out w2.drew b2d
  have HSA := hideP (And.intro (And.intro xm xr2) b2)
  have hsz2 : w2.drew.heap.size = w2.heap.size := rfl
  clear HLG xm xr2
  go_region_held3 (fun W => (W.cell? ⟨gc, 0, none⟩ = some (.pointer (some ⟨g, 0, none⟩)) ∧ W.cell? ⟨gc, 4, none⟩ = some (.slice (some ⟨gd, 0, none⟩) dl c.cD)) ∧ W.cell? ⟨gd, i, none⟩ = some (.int .i64 (k : Int))) (with_reducible first | exact k2 | exact k1) (
    (go_at_call 60
     refine HL.out.mono ?_
     rintro e w4 ⟨A, cA, xs, rfl, hxs, hER, hb4⟩
     have b4 := b2d.trans (hb4.mono b2d.size)
     have k2 := HC.out w4 b4
     have hcaps := hER.caps
     have hsl := slice_uptoE A xs.length cA k (by have := congrArg List.length hxs; rw [List.length_map] at this; omega) hcaps.2.2))
  have hI : RnwI w0 w c.n r0 es gm gr k A cA xs (.map (some c.mb)) (.slice none 0 0) (.int .i64 0) w4 := by
    have hb24 : Below w2.heap.size w2 w4 := ((Below.refl w2.heap.size w2).drew).trans hb4
    exact ⟨0, c.mb, c.n, c.m, none, 0, Nat.zero_le _, rfl, rfl, rfl, RnwH.first (HM.out.1.below b4) HM.out.2.1 (HSA.out.1.1.below hb24) (HSA.out.1.2.below hb24) HM.out.2.2.1 HM.out.2.2.2.1 HM.out.2.2.2.2.1 hr0 hgm1 hgr1 hne ⟨own_mono hER.row b2d.size, hER.es⟩ b4⟩
  have HXS := hideP hxs
  have HXL := hideP (show xs.length = es.length by rw [← hxs, List.length_map])
  clear HSA HL k1 k2 hER hb4 b4 hcaps hsl hxs b2 b2d HC hsz2 hgm1 hgr1 hne
  go_wp2_with fail
  go_loopw [7, 9, 35] (RnwI w0 w c.n r0 es gm gr k A cA xs) (fun _ _ i _ => k - (intOf i).toNat)
  case atStart => exact hI
  case round =>
    clear hI
    obtain ⟨j, b, n, m, Ao, co, hj, rfl, rfl, rfl, h⟩ := hrel
    by_cases hlt : j < k
    · have hjx : j < xs.length := by rw [HXL.out]; omega
      have hbe0 : Below w0.heap.size w0 wr := HM.out.2.2.2.2.2.2.1.trans (h.be.mono HM.out.2.2.2.2.2.2.2)
      obtain ⟨bb, oo, hA, hbl, p0, p1, p2, p3⟩ := (h.er.el hbe0).cells j xs[j] (List.getElem?_eq_getElem hjx)
      have hes := h.er.es _ (List.getElem_mem hjx)
      have hxe : es[j]? = some (entOf xs[j]) := by rw [← HXS.out, List.getElem?_map, List.getElem?_eq_getElem hjx]; rfl
      have hck := HCK.out _ (List.mem_of_getElem? hxe)
      generalize xs[j] = x at p0 p1 p2 p3 hes hxe hck
      obtain ⟨D, cD, d, isM, mm⟩ := x
      simp only at p0 p1 p2 p3
      have al := (Below.refl wr.heap.size wr).alloc (Nat.le_refl _) (.cells (emC ⟨D, cD, d, isM, mm⟩) 42)
      have xb := Box.new wr 42 (emC ⟨D, cD, d, isM, mm⟩)
      have h1 := h.below al
      have x0 := xb.cell 0 (v := .slice D d.length cD) rfl
      have x1 := xb.cell 1 (v := .bool isM) rfl
      have x2 := xb.cell 2 (v := .slice mm.A mm.cs.length mm.ca) rfl
      have x3 := xb.cell 3 (v := .slice mm.O mm.os.length mm.co) rfl
      have g3 : (0 : Int) ≤ (j : Int) := by omega
      have g4 : (j : Int) < (k : Int) := by omega
      have hN : j ≤ 100000 := by omega
      subst hA
      unfold emC at al h1 x0 x1 x2 x3
      cases isM
      · have hdo : ∀ o ∈ d, chkO o = 0 := (chkD_zero.1 (show chkD d = 0 from hck)).2.2
        have HRN := hideP (rrunR_done b n (playR r0 (es.take j)).v D cD d _ h1.mv (by have := h.nle; have := HM.out.2.2.2.2.2.1; omega) h1.vb ((hes.ops.go hbe0).go al) hck)
        have HTL := hideP (fun (W : World) (hb : Below (wr.alloc (.cells #[.slice D d.length cD, .bool false, .slice mm.A mm.cs.length mm.ca, .slice mm.O mm.os.length mm.co] 42)).heap.size (wr.alloc (.cells #[.slice D d.length cD, .bool false, .slice mm.A mm.cs.length mm.ca, .slice mm.O mm.os.length mm.co] 42)) W) (b1 : Nat)
            (hm : MV W b1 (n + 16) (doneV (playR r0 (es.take j)).v d).1) => h1.told (x := entOf ⟨D, cD, d, false, mm⟩) (bv := (doneV (playR r0 (es.take j)).v d).2) (m1 := m) hN hr0 (Fr.of_below hb) hxe hm (doneV_vb hdo h1.vb) (by have := h.nle; omega) (h1.x0.below hb) h1.ms h1.cs h1.os rfl 90)
        generalize (doneV (playR r0 (es.take j)).v d) = dv at HRN HTL
        clear h h1 xb al hes hxe hck hdo x1 x2 x3 hbe0
        go_wp2_with fail
        refine HRN.out.mono ?_
        clear HRN
        rintro e w11 ⟨b1, rfl, hm1, hb11⟩
        obtain ⟨Ao', co', w12, hrun, hN2⟩ := HTL.out w11 hb11 b1 hm1
        have HR := hideP hrun
        clear hrun HTL hm1 hb11
        go_wp2_with (at_builtin; refine Lib.wpList_append_run _ rfl _ _ _ _ rfl _ _ rfl rfl _ _ HR.out ?_)
        go_roundw
        case rel => exact ⟨j + 1, b1, n + 16, m, Ao', co', by omega, by go_num, rfl, rfl, hN2⟩
        case measure => simp [intOf]; omega
      · have f0 := h1.x0.frozen 0
        have f1 := (h1.x0.set 0 (.slice mm.A mm.cs.length mm.ca)).frozen 1
        have c0 := h1.x0.cell 0 (v := .slice m.A m.cs.length m.ca) rfl
        have c1 := (h1.x0.set 0 (.slice mm.A mm.cs.length mm.ca)).cell 1 (v := .slice m.O m.os.length m.co) rfl
        have ff : Fr (fun q => q = gm) (wr.alloc (.cells #[.slice D d.length cD, .bool true, .slice mm.A mm.cs.length mm.ca, .slice mm.O mm.os.length mm.co] 42)) (((wr.alloc (.cells #[.slice D d.length cD, .bool true, .slice mm.A mm.cs.length mm.ca, .slice mm.O mm.os.length mm.co] 42)).setCell ⟨gm, 0, none⟩ (.slice mm.A mm.cs.length mm.ca)).setCell ⟨gm, 1, none⟩ (.slice mm.O mm.os.length mm.co)) := Fr.comp (F := fun q => q = gm) (Fr.of_set _ _ _ rfl) (Fr.of_set _ _ _ rfl)
        obtain ⟨Ao', co', w12, hrun, hN2⟩ := h1.told (x := entOf ⟨D, cD, d, true, mm⟩) (bv := true) (m1 := mm) (b1 := b) (n1 := n) hN hr0 ff hxe (h1.mv.fr ff fun e => h1.mv.nty (h1.x0.ty) e.symm) h1.vb (by have := h.nle; omega) ((h1.x0.set 0 (.slice mm.A mm.cs.length mm.ca)).set 1 (.slice mm.O mm.os.length mm.co)) hes.map rfl rfl rfl 90
        have hsz : (((wr.alloc (.cells #[.slice D d.length cD, .bool true, .slice mm.A mm.cs.length mm.ca, .slice mm.O mm.os.length mm.co] 42)).setCell ⟨gm, 0, none⟩ (.slice mm.A mm.cs.length mm.ca)).setCell ⟨gm, 1, none⟩ (.slice mm.O mm.os.length mm.co)).heap.size = wr.heap.size + 1 := by simp [World.setCell]
        rw [hsz] at hrun
        have HR := hideP hrun
        clear hrun h h1 xb al hes hxe hck ff x0 hbe0 hsz
        go_wp2_with (at_builtin; refine Lib.wpList_append_run _ rfl _ _ _ _ rfl _ _ rfl rfl _ _ HR.out ?_)
        go_roundw
        case rel => exact ⟨j + 1, b, n, mm, Ao', co', by omega, by go_num, rfl, rfl, hN2⟩
        case measure => simp [intOf]; omega
    · obtain rfl : j = k := by omega
      have c0 := h.x0.cell 0 (v := .slice m.A m.cs.length m.ca) rfl
      have c1 := h.x0.cell 1 (v := .slice m.O m.os.length m.co) rfl
      have f0 := h.xr.frozen 0
      have f1 := (h.xr.set 0 (.slice m.A m.cs.length m.ca)).frozen 1
      have r0c := h.xr.cell 0 (v := .slice none 0 0) rfl
      have r1c := (h.xr.set 0 (.slice m.A m.cs.length m.ca)).cell 1 (v := .slice none 0 0) rfl
      have xf := (h.xr.set 0 (.slice m.A m.cs.length m.ca)).set 1 (.slice m.O m.os.length m.co)
      have q0 := xf.cell 0 (v := .slice m.A m.cs.length m.ca) rfl
      have q1 := xf.cell 1 (v := .slice m.O m.os.length m.co) rfl
      have ff : Fr (fun q => q = gr) wr ((wr.setCell ⟨gr, 0, none⟩ (.slice m.A m.cs.length m.ca)).setCell ⟨gr, 1, none⟩ (.slice m.O m.os.length m.co)) := Fr.comp (F := fun q => q = gr) (Fr.of_set _ _ _ rfl) (Fr.of_set _ _ _ rfl)
      have hbl : (playR r0 (es.take j)).bs.length = j := by rw [playR_len, hr0, List.length_take]; simp; omega
      have HF := hideP (show RetRnw w0 w (playR r0 (es.take j)) (.returned (.tuple #[.map (some b), .agg #[.slice m.A m.cs.length m.ca, .slice m.O m.os.length m.co], .slice Ao j co])) ((wr.setCell ⟨gr, 0, none⟩ (.slice m.A m.cs.length m.ca)).setCell ⟨gr, 1, none⟩ (.slice m.O m.os.length m.co)) from
        ⟨b, n, m, Ao, co, by rw [hbl], h.mv.fr ff (fun e => h.mv.nty h.xr.ty e.symm), by have := h.nle; have := HM.out.2.2.2.2.2.1; omega, h.ms, h.cs, h.os, ff.own_ty h.ob (fun q hq _ => ⟨34, by have hq' : q = gr := hq; rw [hq']; exact h.xr.ty, by decide⟩), ff.below (fun q hq => by have hq' : q = gr := hq; rw [hq']; exact h.lr) h.be.size h.be⟩)
      clear h xf ff hbl
      go_wp2_with fail
      go_region
      all_goals
        go_wp2_with fail
        exact bodyPost_ret (v := .tuple #[.map (some b), .agg #[.slice m.A m.cs.length m.ca, .slice m.O m.os.length m.co], .slice Ao j co]) (by simp [results, Tryz.results62, go_sem, q0, q1]) rfl HF.out.drew
end Go.Proofs.YtefdipjhjgmokaaGreatDoor
