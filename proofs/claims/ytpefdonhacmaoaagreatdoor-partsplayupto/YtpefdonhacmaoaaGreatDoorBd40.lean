/-
  rolaw.PartsPlay: the law answers true.
-/
import Derived.Test.YtpefdonhacmaoaaGreatDoorBd36
import Derived.Test.YtpefdonhacmaoaaGreatDoorBd37
import Derived.Test.YtpefdonhacmaoaaGreatDoorBd33
import Derived.Test.YtpefdonhacmaoaaGreatDoorBd38
import Derived.Test.YtpefdonhacmaoaaGreatDoorBd39
import Derived.Deep.RegionHeld3
import Derived.Deep.Cut
import Derived.Deep.CutBlock
import Derived.Deep.DeepCutAuto
set_option linter.unusedVariables false
set_option linter.unusedSimpArgs false
namespace Go.Proofs.YtpefdonhacmaoaaGreatDoor
open Go.RowKit Go.WideMaps Go.Maps

set_option maxRecDepth 100000 in
theorem fld1 (a b : Value) (w : World) : (Instr.field 25 (.agg #[a, b]) 1).run Tryz.prog w = .ok b w := by
  have hu := run_underlying (w := w) Tryz.underlying25
  simp [Instr.field, hu, part, go_sem, asAgg]
theorem play_okm : OkM [] [1] := chkM_ok.1 (by decide +kernel)

/-- while the pairs are counted that change their owner -/
structure MvH (w : World) (gm : Nat) (m : Mp) (gn : Nat) (nx : Mp) (gp : Nat) (key : ByteArray) (z : Int) (wr : World) : Prop where
  xm : Box wr gm 25 #[.slice m.A m.cs.length m.ca, .slice m.O m.os.length m.co]
  xn : Box wr gn 25 #[.slice nx.A nx.cs.length nx.ca, .slice nx.O nx.os.length nx.co]
  xp : Box wr gp 55 #[.string key, .int .i64 z]
  be : Below w.heap.size w wr
theorem MvH.below {w wr w' : World} {gm gn gp : Nat} {m nx : Mp} {key : ByteArray} {z : Int} (h : MvH w gm m gn nx gp key z wr) (hb : Below wr.heap.size wr w') : MvH w gm m gn nx gp key z w' := ⟨h.xm.below hb, h.xn.below hb, h.xp.below hb, h.be.trans (hb.mono h.be.size)⟩
theorem MvH.s {w wr : World} {gm gn gp : Nat} {m nx : Mp} {key : ByteArray} {z : Int} (h : MvH w gm m gn nx gp key z wr) : (wr.cell? ⟨gm, 0, none⟩ = some (.slice m.A m.cs.length m.ca) ∧ wr.cell? ⟨gm, 1, none⟩ = some (.slice m.O m.os.length m.co)) ∧ (wr.cell? ⟨gn, 0, none⟩ = some (.slice nx.A nx.cs.length nx.ca) ∧ wr.cell? ⟨gn, 1, none⟩ = some (.slice nx.O nx.os.length nx.co)) ∧ wr.cell? ⟨gp, 0, none⟩ = some (.string key) :=
  ⟨⟨h.xm.cell 0 rfl, h.xm.cell 1 rfl⟩, ⟨h.xn.cell 0 rfl, h.xn.cell 1 rfl⟩, h.xp.cell 0 rfl⟩
def MvI (w0 : World) (m nx : Mp) (l : List Pr) (v i : Value) (wr : World) : Prop := ∃ k : Nat, k ≤ l.length ∧ i = .int .i64 k ∧ v = .int .i64 (movN m.cs m.os nx.cs nx.os (l.take k) : Nat) ∧ Below w0.heap.size w0 wr
def AllI (w0 : World) (ow : List Int) (v i : Value) (wr : World) : Prop := ∃ (j : Nat) (A : Option Addr) (c : Nat), j ≤ 4 ∧ i = .int .i64 j ∧ v = .slice A (allV ow j).length c ∧ OR wr w0.heap.size 3 A c ((allV ow j).map encN) ∧ Below w0.heap.size w0 wr
def AlkI (w0 : World) (ow : List Int) (ns : List ByteArray) (j : Nat) (As : Option Addr) (cs' : Nat) (v i : Value) (wr : World) : Prop := ∃ (k : Nat) (A : Option Addr) (c : Nat), k ≤ ns.length ∧ i = .int .i64 k ∧ v = .slice A (allK ow j k).length c ∧ OR wr w0.heap.size 3 A c ((allK ow j k).map encN) ∧ OR wr w0.heap.size 9 As cs' (ns.map Value.string) ∧ Below w0.heap.size w0 wr

set_option maxHeartbeats 16000000 in
set_option maxRecDepth 100000 in
theorem pplay_any (m : Mp) (A P E M : Option Addr) (c cp ce cm : Nat) (l : List Pr) (cs : List Cl) (ds : List Dl) (ms : List Mp) (w : World) (hm : MS w m) (hA : SV w A c l) (hl : l.length ≤ 1048576) (hP : LS w P cs) (hlp : cs.length ≤ 1048576)
    (hE : DS w E ds) (hle : ds.length ≤ 9223372036854775807) (hM : MSs w M ms) (hlm : ms.length ≤ 9223372036854775807) :
    Calls Tryz.prog 3 #[.agg #[.slice m.A m.cs.length m.ca, .slice m.O m.os.length m.co], .slice A l.length c, .slice P cs.length cp, .slice E ds.length ce, .slice M ms.length cm] w fun e w' => e = .returned (.bool true) ∧ Below w.heap.size w w' := by
  have b0 := ((Below.refl w.heap.size w).alloc (Nat.le_refl _) (.cells #[.slice m.A m.cs.length m.ca, .slice m.O m.os.length m.co] 25)).alloc (by simp) (.cells #[.int .i64 1] 3)
  have y := (Box.new w 25 #[.slice m.A m.cs.length m.ca, .slice m.O m.os.length m.co]).alloc (.cells #[.int .i64 1] 3)
  have x1 := Box.new (w.alloc (.cells #[.slice m.A m.cs.length m.ca, .slice m.O m.os.length m.co] 25)) 3 #[.int .i64 1]
  simp only [World.size_alloc] at x1
  generalize hW : (w.alloc (.cells #[.slice m.A m.cs.length m.ca, .slice m.O m.os.length m.co] 25)).alloc (.cells #[.int .i64 1] 3) = w1 at b0 y x1
  have hm1 : MS w1 ⟨none, 0, [], some ⟨w.heap.size + 1, 0, none⟩, 1, [1]⟩ := ⟨VS.nil, VS.is_int (l := [1]) (VS.of_box x1), by simp, by simp, by simp [maxLen], by simp [maxLen], (fun _ => rfl), (fun e => by cases e)⟩
  have HN := hideP (new_ok _ none 0 [] w1 hm1 PS.nil play_okm Ok.nil)
  clear hm1 x1
  go_enter Tryz.func3, Tryz.ntmps3
  go_wp2_with fail
  refine HN.out.mono ?_
  rintro e w2 ⟨g0, A2, ca2, O2, co2, q2, rfl, hp2, hb2⟩
  replace y := y.below hb2
  have hb := b0.trans (hb2.mono b0.size)
  have HMP := hideP (map_ok _ g0 _ _ q2 w2 hp2)
  simp only [List.length_singleton] at HMP
  clear HN hb2 b0 hp2 hW
  go_wp2_with fail
  refine HMP.out.mono ?_
  rintro e w3 ⟨A3, ca3, O3, co3, rfl, _, hb3⟩
  have fl := fld1 (.slice A3 0 ca3) (.slice O3 1 co3) w3
  replace y := y.below hb3
  replace hb := hb.trans (hb3.mono hb.size)
  clear HMP hb3
  obtain ⟨z1, z2⟩ : w3.cell? ⟨w.heap.size, 0, none⟩ = some (.slice m.A m.cs.length m.ca) ∧ w3.cell? ⟨w.heap.size, 1, none⟩ = some (.slice m.O m.os.length m.co) := ⟨y.cell 0 rfl, y.cell 1 rfl⟩
  have hml : m.os.length ≤ 9223372036854775807 := by have := hm.lo; have := hm.mo; unfold maxLen at this; omega
  by_cases he : errV m.cs m.os l = 0
  · have hck : chkM m.cs m.os = 0 := by
      unfold errV at he
      by_cases e : chkM m.cs m.os = 0
      · exact e
      · rw [if_pos e] at he; exact he
    have hcl : chk ByteArray.empty l = 0 := by
      unfold errV at he
      rw [if_neg (by simp [hck])] at he; exact he
    have hok := chkM_ok.1 hck
    have hokl := chk_ok.1 hcl
    have HNW := hideP (new_ok m A c l w3 (hm.below hb) ((hA.below hb).ps) hok hokl)
    have HRM := hideP (fun (W : World) (h : Below w.heap.size w W) => rmap_any m W (hm.below h) hml)
    have HRS := hideP (fun (W : World) (h : Below w.heap.size w W) => rstore_any A c l W (hA.below h).ps (by omega))
    rw [hck] at HRM
    rw [hcl] at HRS
    clear he hck hcl
    go_wp2_with fail
    refine HNW.out.mono ?_
    rintro e w4 ⟨g, A4, ca4, O4, co4, q4, rfl, hp4, hb4⟩
    replace y := y.below hb4
    replace hp4 := hp4.mono hb.size
    replace hb := hb.trans (hb4.mono hb.size)
    clear HNW hb4 z1 z2 fl
    obtain ⟨z1, z2⟩ : w4.cell? ⟨w.heap.size, 0, none⟩ = some (.slice m.A m.cs.length m.ca) ∧ w4.cell? ⟨w.heap.size, 1, none⟩ = some (.slice m.O m.os.length m.co) := ⟨y.cell 0 rfl, y.cell 1 rfl⟩
    go_wp2_with fail
    refine (HRM.out _ hb).mono ?_
    rintro e w5 ⟨rfl, hb5⟩
    replace y := y.below hb5
    replace hp4 := hp4.below hb5
    replace hb := hb.trans (hb5.mono hb.size)
    clear HRM hb5 z1 z2
    go_wp2_with fail
    refine (HRS.out _ hb).mono ?_
    rintro e w6 ⟨rfl, hb6⟩
    replace y := y.below hb6
    replace hp4 := hp4.below hb6
    replace hb := hb.trans (hb6.mono hb.size)
    clear HRS hb6
    go_wp2_with fail
    refine (of_mv A c l _ (hA.below hb) hokl).mono ?_
    rintro e w7 ⟨mb, rfl, hmv, hb7⟩
    replace y := y.below hb7
    replace hp4 := hp4.below hb7
    replace hb := hb.trans (hb7.mono hb.size)
    clear hb7
    have hal := (Below.refl w7.heap.size w7).alloc (Nat.le_refl _) (.cells #[.slice none 0 0] 23)
    have hr0 := OR.of_box_ (B := w.heap.size) (Box.new w7 23 #[.slice none 0 0]) hb.size (by simp [maxLen])
    have hb8 := hb.trans (hal.mono hb.size)
    obtain ⟨Ar, cr, w9, hrun, hr9, hg9⟩ := app_srcS (P := Tryz.prog) Tryz.underlying27 rowInfo rfl (w7.alloc (.cells #[.slice none 0 0] 23)) w.heap.size 27 _ _ _ hr0 P cp (cs.map clV) (hP.vs.below hb8) (by intro u hu; obtain ⟨x, _, rfl⟩ := List.mem_map.1 hu; rfl) (by simp; omega) (by decide) hb8.size
    have hgn : ∀ {t : TypeId} {k : Nat}, Ty (w7.alloc (.cells #[.slice none 0 0] 23)) k t → t ≠ 23 → k ≠ w7.heap.size := fun {t k} ht hne e => by
      subst e
      exact hne (ht.inj (Box.new w7 23 #[.slice none 0 0]).ty)
    have hob : (Value.slice (some ⟨w7.heap.size, 0, none⟩) (#[Value.slice none 0 0] : Array Value).toList.length (#[Value.slice none 0 0] : Array Value).size).ownBlock = some w7.heap.size := rfl
    rw [hob] at hg9
    have hw7 : w.heap.size ≤ w7.heap.size := hb.size
    have hI0 := hideP (show PyI w g w.heap.size l.length Ar cr ([.slice none 0 0] ++ cs.map clV) (.map (some mb)) (.int .i64 0) w9 from
      ⟨0, l, m, mb, l.length, Nat.zero_le _, rfl, rfl, by omega,
        ⟨⟨A4, ca4, O4, co4, q4, (hp4.below hal).kept (hgn (hp4.below hal).box.ty (by decide)) (Box.new w7 23 #[.slice none 0 0]).ty (by decide) (by decide) (by decide) hg9⟩,
          (y.below hal).kept (hgn (y.below hal).ty (by decide)) hg9, hm, (hmv.below hal).kept hg9 (fun e => (hmv.below hal).ne (Box.new w7 23 #[.slice none 0 0]).ty (by injection e)), hr9, Nat.le_refl _, Below.kept hb8 hw7 hg9⟩⟩)
    have hrows : PyRows w ([.slice none 0 0] ++ cs.map clV) := fun v hv => by
      rcases List.mem_append.1 hv with h | h
      · simp at h; subst h; exact ⟨⟨none, 0, []⟩, rfl, fun i z hz => by simp at hz, by simp⟩
      · obtain ⟨x, hx, rfl⟩ := List.mem_map.1 h
        obtain ⟨h1, h2, h3⟩ := hP.is_ x hx
        exact ⟨x, rfl, h1, by omega⟩
    have hrl : ([Value.slice none 0 0] ++ cs.map clV).length ≤ 1048577 := by simp; omega
    rw [List.length_map] at hrun
    change _ = Result.ok (Value.slice Ar ([Value.slice none 0 0] ++ cs.map clV).length cr) w9 at hrun
    have HR := hideP hrun
    generalize hrw : [Value.slice none 0 0] ++ cs.map clV = rows at hI0 hrows hrl HR
    clear hrun hr9 hg9 hgn hob hr0 hal hb8 hmv y hp4 hb hrw
    go_wp2_with (at_builtin; refine Lib.wpList_append_run _ rfl _ _ _ _ rfl _ _ rfl rfl _ _ HR.out ?_)
    obtain ⟨gm, hgm⟩ : ∃ gm, gm = w.heap.size := ⟨_, rfl⟩
    rw [← hgm] at hI0 ⊢
    clear hgm HR hw7
    generalize hnb : l.length = nb at hI0 hl ⊢
    go_loopw [16, 96] (PyI w g gm nb Ar cr rows) (fun _ i _ => rows.length - (intOf i).toNat)
    case atStart => exact hI0.out
    case round =>
      clear hI0 hm hml hok hokl hA hnb
      obtain ⟨t, l, m, mb, n, ht, rfl, rfl, hn, hH⟩ := hrel
      by_cases htl : t < rows.length
      · obtain ⟨b, o, rfl, hbl, q1⟩ := hH.rw_.vs t _ (List.getElem?_eq_getElem htl)
        obtain ⟨x, hx, hxi, hxl⟩ := hrows _ (List.getElem_mem htl)
        rw [hx] at q1
        obtain ⟨Ax, cx, zs⟩ := x
        simp only [clV] at q1 hxi hxl
        have H1 := hideP (fun (W : World) (h : Below w.heap.size w W) => rat_any Ax cx zs 1 W (hxi.below h) hxl)
        have H0 := hideP (fun (W : World) (h : Below w.heap.size w W) => rat_any Ax cx zs 0 W (hxi.below h) hxl)
        clear hx hxi
        generalize zs.getD 1 0 = kz at H1
        generalize zs.getD 0 0 = tg at H0
        have g1 : (0 : Int) ≤ (t : Int) := by omega
        have g2 : (t : Int) < (rows.length : Int) := by omega
        go_wp2_with fail
        refine (H1.out _ hH.be).mono ?_
        rintro e w9' ⟨rfl, rfl⟩
        go_wp2_with fail
        refine (pick_any E ce ds kz _ (hE.below hH.be) hle).mono ?_
        rintro e w10 ⟨D, cD, d, rfl, hd, hb10⟩
        have hos : OS w w.heap.size D d := by
          rcases hd with rfl | ⟨x, hx, rfl, rfl⟩
          · exact OS.nil
          · exact hE.os x hx
        replace hH := hH.below hb10
        clear hd hb10 H1 q1
        go_wp2_with fail
        refine (pickM_any M cm ms kz _ (hM.below hH.be) hlm).mono ?_
        rintro e w11 ⟨nx, rfl, hnx, hb11⟩
        have hnm : MS w nx := by
          rcases hnx with rfl | h
          · exact ⟨VS.nil, (fun i z hz => by simp [nilM] at hz), by simp [nilM], by simp [nilM], by simp [nilM], by simp [nilM], (fun _ => rfl), (fun _ => rfl)⟩
          · exact hM.ms nx h
        replace hH := hH.below hb11
        clear hnx hb11
        have hal := ((Below.refl w11.heap.size w11).alloc (Nat.le_refl _) (.cells #[.slice D d.length cD] 43)).alloc (by simp) (.cells #[.slice nx.A nx.cs.length nx.ca, .slice nx.O nx.os.length nx.co] 25)
        have y20 := (Box.new w11 43 #[.slice D d.length cD]).alloc (.cells #[.slice nx.A nx.cs.length nx.ca, .slice nx.O nx.os.length nx.co] 25)
        have y21 := Box.new (w11.alloc (.cells #[.slice D d.length cD] 43)) 25 #[.slice nx.A nx.cs.length nx.ca, .slice nx.O nx.os.length nx.co]
        simp only [World.size_alloc] at y21
        replace hH := hH.below hal
        clear hal
        go_wp2_with fail
        generalize (w11.alloc _).alloc _ = w12 at hH y20 y21 ⊢
        generalize w11.heap.size = gd at y20 y21 ⊢
        refine (H0.out _ hH.be).mono ?_
        rintro e w13 ⟨rfl, rfl⟩
        clear H0 g1 g2
        go_upto_block 2 with fail
        go_cut [16] (PyR w g gm (nb + 16 * t + 16) (some ⟨b, o, none⟩) cr rows)
        case first =>
          by_cases h1 : tg = 1
          · subst h1
            have z20 := y20.cell 0 (v := .slice D d.length cD) rfl
            obtain ⟨A', ca', O', co', q, hp⟩ := hH.pb
            by_cases hcd : chkD d = 0
            · have hf := fun k => hH.ok.vb k
              have hnn : n ≤ 500000000 := by omega
              cases hr : runV (valOf l) d with
              | some u =>
                as_aux_lemma =>
                  have HDO := hideP (do_ok w.heap.size g _ l q D cD d _ hp ((hos.below hH.be).more hH.be.size) hcd)
                  rw [doneV_some hr] at HDO
                  go_wp2_with fail
                  refine HDO.out.mono ?_
                  rintro e w14 ⟨rfl, l', q', hp', hv', hg'⟩
                  have hQ := hH.q hg'
                  replace y20 := y20.kept (ty_ne y20.ty hp.box.ty (by decide)) hg'
                  have z21 := y20.cell 0 (v := .slice D d.length cD) rfl
                  have HRD := hideP (rdeed_any D cD d _ ((hos.below hQ.be).more hQ.be.size))
                  rw [hcd] at HRD
                  have HV := hideP hv'
                  clear HDO hH hp hg' y21 z20 hv'
                  go_wp2_with fail
                  refine HRD.out.mono ?_
                  rintro e w15 ⟨rfl, hb15⟩
                  replace hQ := hQ.below hb15
                  replace hp' := hp'.below hb15
                  replace y20 := y20.below hb15
                  have z22 := y20.cell 0 (v := .slice D d.length cD) rfl
                  have HRR := hideP (rrunR_any mb n (valOf l) D cD d _ hQ.mv hnn hf ((hos.below hQ.be).more hQ.be.size) hcd)
                  clear HRD hb15 z21
                  go_wp2_with fail
                  refine HRR.out.mono ?_
                  rintro e w16 (⟨u', bo, hu, rfl, hmv, _, hb16⟩ | ⟨hu, rfl, hb16⟩)
                  · have eu : u' = u := by rw [hr] at hu; injection hu with hu; exact hu.symm
                    subst eu
                    have hPy := (hQ.below hb16).h (hp'.below hb16) (by rw [HV.out]; exact hmv)
                    clear HRR hQ hp' y20 z22 hmv hb16 hu hr HV hf hcd
                    go_wp2_with fail
                    go_meet
                    case rel => exact ⟨l', m, bo, n + 16, rfl, by omega, hPy⟩
                  · rw [hr] at hu; cases hu
              | none =>
                as_aux_lemma =>
                  have HDO := hideP (do_ok w.heap.size g _ l q D cD d _ hp ((hos.below hH.be).more hH.be.size) hcd)
                  rw [doneV_none hr] at HDO
                  go_wp2_with fail
                  refine HDO.out.mono ?_
                  rintro e w14 ⟨rfl, l', q', hp', hv', hg'⟩
                  have hQ := hH.q hg'
                  have el : l' = l := hp'.ok.ext hp.ok fun k => by rw [hv']
                  subst el
                  replace y20 := y20.kept (ty_ne y20.ty hp.box.ty (by decide)) hg'
                  have z21 := y20.cell 0 (v := .slice D d.length cD) rfl
                  have HRD := hideP (rdeed_any D cD d _ ((hos.below hQ.be).more hQ.be.size))
                  rw [hcd] at HRD
                  clear HDO hH hp hg' y21 z20 hv'
                  go_wp2_with fail
                  refine HRD.out.mono ?_
                  rintro e w15 ⟨rfl, hb15⟩
                  replace hQ := hQ.below hb15
                  replace hp' := hp'.below hb15
                  replace y20 := y20.below hb15
                  have z22 := y20.cell 0 (v := .slice D d.length cD) rfl
                  have HRR := hideP (rrunR_any mb n (valOf l') D cD d _ hQ.mv hnn hf ((hos.below hQ.be).more hQ.be.size) hcd)
                  clear HRD hb15 z21
                  go_wp2_with fail
                  refine HRR.out.mono ?_
                  rintro e w16 (⟨u', bo, hu, rfl, hmv, _, hb16⟩ | ⟨hu, rfl, hb16⟩)
                  · rw [hr] at hu; cases hu
                  · have hPy := (hQ.below hb16).h (hp'.below hb16) (hQ.below hb16).mv
                    clear HRR hQ hp' y20 z22 hb16 hu hr hf hcd
                    go_wp2_with fail
                    go_meet
                    case rel => exact ⟨l', m, mb, n, rfl, by omega, hPy⟩
            · as_aux_lemma =>
                have HDO := hideP (do_bad w.heap.size g _ l q D cD d _ hp ((hos.below hH.be).more hH.be.size) hcd)
                have HRD := hideP (fun (W : World) (h : Below w.heap.size w W) => rdeed_any D cD d W ((hos.below h).more h.size))
                have d0 : (chkD d == 0) = false := by simp [hcd]
                have d1 : (chkD d != chkD d) = false := by simp
                generalize chkD d = e0 at HDO HRD d0 d1
                clear hcd hp
                go_wp2_with fail
                refine HDO.out.mono ?_
                rintro e w14 ⟨rfl, hb14⟩
                replace hH := hH.below hb14
                replace y20 := y20.below hb14
                have z21 := y20.cell 0 (v := .slice D d.length cD) rfl
                clear HDO hb14 z20 y21
                go_wp2_with fail
                refine (HRD.out _ hH.be).mono ?_
                rintro e w15 ⟨rfl, hb15⟩
                replace hH := hH.below hb15
                clear HRD hb15 z21 y20
                go_wp2_with fail
                go_meet
                case rel => exact ⟨l, m, mb, n, rfl, by omega, hH⟩
          · by_cases h2 : tg = 2
            · subst h2
              clear h1
              have d0 : ((2 : Int) == 1) = false := by decide
              have z20 := y21.cell 0 (v := .slice nx.A nx.cs.length nx.ca) rfl
              have z21 := y21.cell 1 (v := .slice nx.O nx.os.length nx.co) rfl
              obtain ⟨A', ca', O', co', q, hp⟩ := hH.pb
              have hnl : nx.os.length ≤ 9223372036854775807 := by have := hnm.lo; have := hnm.mo; unfold maxLen at this; omega
              by_cases hcm : chkM nx.cs nx.os = 0
              · as_aux_lemma =>
                  have hokn := chkM_ok.1 hcm
                  have hokm := hH.okm
                  have HTU := hideP (turn_ok w.heap.size g _ l q nx _ hp (hnm.below hH.be) hokn)
                  have HRM := hideP (fun (W : World) (h : Below w.heap.size w W) => rmap_any nx W (hnm.below h) hnl)
                  rw [hcm] at HRM
                  simp only at HTU
                  clear hcm
                  go_wp2_with fail
                  refine HTU.out.mono ?_
                  rintro e w14 ⟨rfl, A14, ca14, O14, co14, q', hp', hg'⟩
                  have hQ := hH.q hg'
                  have hlk := hH.ok
                  replace y21 := y21.kept (ty_ne y21.ty hp.box.ty (by decide)) hg'
                  have z22 := y21.cell 0 (v := .slice nx.A nx.cs.length nx.ca) rfl
                  have z23 := y21.cell 1 (v := .slice nx.O nx.os.length nx.co) rfl
                  clear HTU hH hp hg' y20 z20 z21
                  go_wp2_with fail
                  refine (HRM.out _ hQ.be).mono ?_
                  rintro e w15 ⟨rfl, hb15⟩
                  replace hQ := hQ.below hb15
                  replace hp' := hp'.below hb15
                  replace y21 := y21.below hb15
                  clear HRM hb15 z22 z23
                  go_wp2_with fail
                  refine (list_mv mb n (valOf l) l _ hQ.mv (by omega) hlk rfl).mono ?_
                  rintro e w16 ⟨Al, cl, rfl, hsv, hb16⟩
                  replace hQ := hQ.below hb16
                  replace hp' := hp'.below hb16
                  replace y21 := y21.below hb16
                  have hsm := hlk.small
                  clear hb16
                  go_wp2_with fail
                  go_loopw [28, 151] (MvI w16 m nx l) (fun _ i _ => l.length - (intOf i).toNat)
                  case atStart => exact ⟨0, Nat.zero_le _, rfl, rfl, Below.refl _ _⟩
                  case round =>
                    obtain ⟨k, hk, rfl, rfl, hbk⟩ := hrel
                    by_cases hkl : k < l.length
                    · obtain ⟨b', o', rfl, hbl', c1, c2⟩ := (hsv.below hbk).ps k _ (List.getElem?_eq_getElem hkl)
                      have hsn := movN_snoc m.cs m.os nx.cs nx.os (l.take k) l[k]
                      rw [← List.take_succ_eq_append_getElem hkl] at hsn
                      have hml := movN_le m.cs m.os nx.cs nx.os (l.take k)
                      rw [List.length_take] at hml
                      have HSN := hideP hsn
                      clear hsn
                      generalize l[k] = p at c1 c2 HSN
                      generalize movN m.cs m.os nx.cs nx.os (l.take k) = mv at HSN hml ⊢
                      have hal := (Below.refl wr.heap.size wr).alloc (Nat.le_refl _) (.cells #[.string p.1, .int .i64 p.2] 55)
                      have hbk' := hbk.trans (hal.mono hbk.size)
                      have hV : MvH w gm m (gd + 1) nx wr.heap.size p.1 p.2 (wr.alloc (.cells #[.string p.1, .int .i64 p.2] 55)) := ⟨hQ.bx.below hbk', y21.below hbk', Box.new _ _ _, hQ.be.trans (hbk'.mono hQ.be.size)⟩
                      have g3 : (0 : Int) ≤ (k : Int) := by omega
                      have g4 : (k : Int) < (l.length : Int) := by omega
                      have wm : IntKind.i64.wrap ((mv : Int) + 1) = (mv : Int) + 1 := by simp only [IntKind.wrap_i64]; omega
                      have hm0 := hQ.ms0
                      have HWm := hideP (fun (W : World) (v : Value) (hv : v = .agg #[.slice m.A m.cs.length m.ca, .slice m.O m.os.length m.co]) (h : Below w.heap.size w W) => show Calls Tryz.prog 17 #[v, .string p.1] W fun e w' => e = .returned (.int .i64 (whV m.cs m.os p.1)) ∧ Below W.heap.size W w' from by subst hv; exact rwhose_any m p.1 W (hm0.below h) hokm)
                      have HWn := hideP (fun (W : World) (v : Value) (hv : v = .agg #[.slice nx.A nx.cs.length nx.ca, .slice nx.O nx.os.length nx.co]) (h : Below w.heap.size w W) => show Calls Tryz.prog 17 #[v, .string p.1] W fun e w' => e = .returned (.int .i64 (whV nx.cs nx.os p.1)) ∧ Below W.heap.size W w' from by subst hv; exact rwhose_any nx p.1 W (hnm.below h) hokn)
                      have HB0 := hideP hbk'
                      clear hal hbk hbk' hm0 hsv
                      generalize whV m.cs m.os p.1 = wa at HSN HWm
                      generalize whV nx.cs nx.os p.1 = wb at HSN HWn
                      go_wp2_with fail
                      generalize wr.alloc _ = w17 at hV HB0 ⊢
                      generalize wr.heap.size = gp at hV ⊢
                      replace hV := hV.below (Below.refl _ _).drew
                      by_cases hab : wa = wb
                      · have dd : (wa != wb) = false := by simp [hab]
                        rw [if_pos hab, Nat.add_zero] at HSN
                        clear hab
                        go_region_held3 (fun W => (W.cell? ⟨gm, 0, none⟩ = some (.slice m.A m.cs.length m.ca) ∧ W.cell? ⟨gm, 1, none⟩ = some (.slice m.O m.os.length m.co)) ∧ (W.cell? ⟨gd + 1, 0, none⟩ = some (.slice nx.A nx.cs.length nx.ca) ∧ W.cell? ⟨gd + 1, 1, none⟩ = some (.slice nx.O nx.os.length nx.co)) ∧ W.cell? ⟨gp, 0, none⟩ = some (.string p.1)) (first | with_reducible exact hV3.s | with_reducible exact hV2.s | with_reducible exact hV.s) (first
                          | (go_at_call 17; refine (HWn.out _ _ (by with_reducible rfl) hV2.be).mono ?_; rintro e w19 ⟨rfl, hb19⟩; have hV3 := hV2.below hb19; have hBB := (HB0.out.drew).trans ((hb18.trans (hb19.mono hb18.size)).mono HB0.out.size))
                          | (go_at_call 17; refine (HWm.out _ _ (by with_reducible rfl) hV.be).mono ?_; rintro e w18 ⟨rfl, hb18⟩; have hV2 := hV.below hb18))
                        go_wp2_with fail
                        go_roundw
                        case rel => exact ⟨k + 1, by omega, by go_num, congrArg (Value.int .i64) (by rw [HSN.out]; omega), hBB⟩
                        case measure => simp [intOf]; omega
                      · have dd : (wa != wb) = true := by simp [hab]
                        rw [if_neg hab] at HSN
                        clear hab
                        go_region_held3 (fun W => (W.cell? ⟨gm, 0, none⟩ = some (.slice m.A m.cs.length m.ca) ∧ W.cell? ⟨gm, 1, none⟩ = some (.slice m.O m.os.length m.co)) ∧ (W.cell? ⟨gd + 1, 0, none⟩ = some (.slice nx.A nx.cs.length nx.ca) ∧ W.cell? ⟨gd + 1, 1, none⟩ = some (.slice nx.O nx.os.length nx.co)) ∧ W.cell? ⟨gp, 0, none⟩ = some (.string p.1)) (first | with_reducible exact hV3.s | with_reducible exact hV2.s | with_reducible exact hV.s) (first
                          | (go_at_call 17; refine (HWn.out _ _ (by with_reducible rfl) hV2.be).mono ?_; rintro e w19 ⟨rfl, hb19⟩; have hV3 := hV2.below hb19; have hBB := (HB0.out.drew).trans ((hb18.trans (hb19.mono hb18.size)).mono HB0.out.size))
                          | (go_at_call 17; refine (HWm.out _ _ (by with_reducible rfl) hV.be).mono ?_; rintro e w18 ⟨rfl, hb18⟩; have hV2 := hV.below hb18))
                        go_wp2_with fail
                        go_roundw
                        case rel => exact ⟨k + 1, by omega, by go_num, congrArg (Value.int .i64) (by rw [HSN.out]; omega), hBB⟩
                        case measure => simp [intOf]; omega
                    · rw [List.take_of_length_le (by omega)]
                      replace hQ := hQ.below hbk
                      replace hp' := hp'.below hbk
                      replace y21 := y21.below hbk
                      have z24 := y21.cell 0 (v := .slice nx.A nx.cs.length nx.ca) rfl
                      have z25 := y21.cell 1 (v := .slice nx.O nx.os.length nx.co) rfl
                      have f0 := hQ.bx.frozen 0
                      have f1 := (hQ.bx.set 0 (.slice nx.A nx.cs.length nx.ca)).frozen 1
                      have e0 := hQ.bx.cell 0 (v := .slice m.A m.cs.length m.ca) rfl
                      have e1 := (hQ.bx.set 0 (.slice nx.A nx.cs.length nx.ca)).cell 1 (v := .slice m.O m.os.length m.co) rfl
                      have HPy := hideP (hQ.setm hnm hp')
                      have dm : (((movN m.cs m.os nx.cs nx.os l : Nat) : Int) != ((movN m.cs m.os nx.cs nx.os l : Nat) : Int)) = false := by simp
                      clear hQ hp' y21 hsv hbk
                      go_wp2_with fail
                      go_meet
                      case rel => exact ⟨l, nx, mb, n, rfl, by omega, HPy.out⟩
              · as_aux_lemma =>
                  have HTU := hideP (turn_bad w.heap.size g _ l q nx _ hp (hnm.below hH.be) hnl hcm)
                  have HRM := hideP (fun (W : World) (h : Below w.heap.size w W) => rmap_any nx W (hnm.below h) hnl)
                  have d1 : (chkM nx.cs nx.os == 0) = false := by simp [hcm]
                  have d2 : (chkM nx.cs nx.os != chkM nx.cs nx.os) = false := by simp
                  generalize chkM nx.cs nx.os = e0 at HTU HRM d1 d2
                  clear hcm hp
                  go_wp2_with fail
                  refine HTU.out.mono ?_
                  rintro e w14 ⟨rfl, hb14⟩
                  replace hH := hH.below hb14
                  replace y21 := y21.below hb14
                  have z22 := y21.cell 0 (v := .slice nx.A nx.cs.length nx.ca) rfl
                  have z23 := y21.cell 1 (v := .slice nx.O nx.os.length nx.co) rfl
                  clear HTU hb14 z20 z21 y20
                  go_wp2_with fail
                  refine (HRM.out _ hH.be).mono ?_
                  rintro e w15 ⟨rfl, hb15⟩
                  replace hH := hH.below hb15
                  clear HRM hb15 z22 z23 y21
                  go_wp2_with fail
                  go_meet
                  case rel => exact ⟨l, m, mb, n, rfl, by omega, hH⟩
            · by_cases h3 : tg = 3
              · subst h3
                clear h1 h2
                have d1 : ((3 : Int) == 1) = false := by decide
                have d2 : ((3 : Int) == 2) = false := by decide
                have z20 := y20.cell 0 (v := .slice D d.length cD) rfl
                obtain ⟨A', ca', O', co', q, hp⟩ := hH.pb
                by_cases hcd : chkD d = 0
                · as_aux_lemma =>
                    have HWH := hideP (who_ok w.heap.size g _ l q D cD d _ hp ((hos.below hH.be).more hH.be.size) hcd)
                    simp only at HWH
                    have HRD := hideP (fun (W : World) (h : Below w.heap.size w W) => rdeed_any D cD d W ((hos.below h).more h.size))
                    rw [hcd] at HRD
                    have hokm := hH.okm
                    have hd8 := (chkD_zero.1 hcd).2.1
                    have hnl := nmL_len d
                    clear y21 hp
                    go_wp2_with fail
                    refine HWH.out.mono ?_
                    rintro e w14 ⟨Aw, cw, rfl, how, hb14⟩
                    have hbe0 := hH.be.size
                    replace hH := hH.below hb14
                    replace y20 := y20.below hb14
                    have z21 := y20.cell 0 (v := .slice D d.length cD) rfl
                    clear HWH hb14 z20
                    go_wp2_with fail
                    refine (HRD.out _ hH.be).mono ?_
                    rintro e w15 ⟨rfl, hb15⟩
                    replace hH := hH.below hb15
                    replace y20 := y20.below hb15
                    replace how := how.below hb15
                    have z22 := y20.cell 0 (v := .slice D d.length cD) rfl
                    clear HRD hb15 z21
                    go_wp2_with fail
                    refine (touches_any D cD d _ ((hos.below hH.be).more hH.be.size) hcd).mono ?_
                    rintro e w16 ⟨b1, b2, nn, D1, D2, rfl, hS, hnn, hb16⟩
                    replace hH := hH.below hb16
                    replace how := how.below hb16
                    have hwl := whoL_len m.cs m.os d
                    have HOW := hideP (show allV ((nmL d).map (whV m.cs m.os)) 4 = whoL m.cs m.os d from allV_who fun x hx => by
                      obtain ⟨k, _, rfl⟩ := List.mem_map.1 hx
                      exact hokm.own _ (whV_mem hokm k))
                    have hol : ((nmL d).map (whV m.cs m.os)).length = (nmL d).length := List.length_map _
                    have HNM := hideP (show ∀ k (hk : k < (nmL d).length), ((nmL d).map (whV m.cs m.os))[k]'(by rw [hol]; exact hk) = whV m.cs m.os (nmL d)[k] from fun k hk => by simp)
                    have HK := hideP (show keysOf (rdL d) ++ keysOf (wrL d) = nmL d from rfl)
                    have hk1 : (keysOf (rdL d)).length + (keysOf (wrL d)).length = (nmL d).length := by rw [← HK.out, List.length_append]
                    have hN1 := hideP (fun (W : World) (h : Below w16.heap.size w16 W) => names_any b1 nn D1 (rdL d) W (hS.m1.kept (row := none) ⟨h.os, h.tape, h.output, h.size, fun k hk _ => h.block k hk⟩ (by simp)) hS.k1 (by omega))
                    have hN2 := hideP (fun (W : World) (h : Below w16.heap.size w16 W) => names_any b2 nn D2 (wrL d) W (hS.m2.kept (row := none) ⟨h.os, h.tape, h.output, h.size, fun k hk _ => h.block k hk⟩ (by simp)) hS.k2 (by omega))
                    have HK1 := hideP hk1
                    clear hb16 z22 y20 hS hcd hk1
                    generalize whoL m.cs m.os d = wo at how hwl HOW ⊢
                    generalize hows : (nmL d).map (whV m.cs m.os) = ow at HOW hol HNM
                    generalize nmL d = ns at hol HNM HK HK1 hnl
                    clear hows
                    go_wp2_with fail
                    go_loopw [37, 201] (AllI w16 ow) (fun _ i _ => 4 - (intOf i).toNat)
                    case atStart => exact ⟨0, none, 0, by omega, rfl, rfl, OR.nil _ _ _, Below.refl _ _⟩
                    case round =>
                      obtain ⟨j, Aj, cj, hj, rfl, rfl, hoj, hbj⟩ := hrel
                      by_cases hj4 : j < 4
                      · have g1 : (j : Int) < 4 := by omega
                        go_wp2_with fail
                        refine (hN1.out _ hbj).mono ?_
                        rintro e w17 ⟨A17, c17, rfl, ho17, hb17⟩
                        have hbj' := hbj.trans (hb17.mono hbj.size)
                        replace hoj := hoj.below hb17
                        clear hb17
                        go_wp2_with fail
                        refine (hN2.out _ hbj').mono ?_
                        rintro e w18 ⟨A18, c18, rfl, ho18, hb18⟩
                        replace ho17 := ho17.below hb18
                        have hbj2 := hbj'.trans (hb18.mono hbj'.size)
                        replace hoj := hoj.below hb18
                        have HCA := hideP (sconcat2 w18 w18.heap.size rfl A17 A18 (keysOf (rdL d)).length (keysOf (wrL d)).length c17 c18 _ _ rfl rfl ho17.vs ho18.vs (by rw [HK1.out]; omega))
                        rw [HK.out] at HCA
                        generalize (keysOf (rdL d)).length = n1 at HCA ⊢
                        generalize (keysOf (wrL d)).length = n2 at HCA ⊢
                        clear hb18 ho17 ho18 hbj hbj'
                        go_wp2_with fail
                        refine HCA.out.mono ?_
                        rintro e w19 ⟨As, cs', rfl, hos19, hb19⟩
                        replace hoj := hoj.below hb19
                        replace hos19 := hos19.mono hbj2.size
                        have hbj3 := hbj2.trans (hb19.mono hbj2.size)
                        clear HCA hb19 hbj2
                        go_wp2_with fail
                        go_loopw [37, 211] (AlkI w16 ow ns j As cs') (fun _ i _ => ns.length - (intOf i).toNat)
                        case atStart => exact ⟨0, Aj, cj, Nat.zero_le _, rfl, by rw [allK_zero], by rw [allK_zero]; exact hoj, hos19, hbj3⟩
                        case round =>
                          clear hoj hos19 hbj3
                          obtain ⟨k, Ak, ck, hk, rfl, rfl, hok, hos19, hbk⟩ := hrel
                          by_cases hkl : k < ns.length
                          · obtain ⟨b', o', rfl, hbl', c1⟩ := hos19.vs k (.string ns[k]) (by simp [hkl])
                            have hHk := hH.below hbk
                            obtain ⟨z1, z2⟩ := hHk.c
                            have HNK := hideP (HNM.out k hkl)
                            have hko : k < ow.length := by omega
                            have HWm := hideP (fun (W : World) (h : Below w.heap.size w W) => rwhose_any m ns[k] W (hH.ms0.below h) hokm)
                            have hal := allK_len ow j k
                            generalize ns[k] = key at c1 HNK HWm
                            generalize whV m.cs m.os key = wk at HNK HWm
                            go_wp2_with fail
                            refine (HWm.out _ hHk.be).mono ?_
                            rintro e w20 ⟨rfl, hb20⟩
                            replace hok := hok.below hb20
                            replace hos19 := hos19.below hb20
                            have hbk2 := hbk.trans (hb20.mono hbk.size)
                            clear hb20 hbk HWm z1 z2 hHk
                            by_cases hwj : wk = (j : Int)
                            · have dj : (wk == (j : Int)) = true := by simp [hwj]
                              have HNJ := hideP (HNK.out.trans hwj)
                              clear hwj
                              go_wp2_with fail
                              refine (icontains_any Ak ck (allK ow j k) (j : Int) _ hok.vs.is_int (by omega)).mono ?_
                              rintro e w21 ⟨rfl, rfl⟩
                              cases hin : inI (j : Int) (allK ow j k) with
                              | true =>
                                have HE := hideP (allK_had hko (inI_iff.1 hin))
                                go_wp2_with fail
                                go_roundw
                                case rel => exact ⟨k + 1, Ak, ck, by omega, by go_num, by rw [HE.out], by rw [HE.out]; exact hok, hos19, hbk2⟩
                                case measure => simp [intOf]; omega
                              | false =>
                                have HE := hideP (allK_new hko HNJ.out (inI_no.1 hin))
                                generalize allK ow j k = ak at HE hok hal ⊢
                                obtain ⟨A', c', w22, hrun, ho22, hbl22, hg22, _⟩ := app_row (P := Tryz.prog) Tryz.underlying23 intInfo rfl w20 w16.heap.size 23 Ak ck _ hok [.int .i64 (j : Int)] (by simp [Value.oneCell']) (by rw [List.length_map]; simp only [List.length_singleton]; omega) (by decide) hbk2.size
                                have hb22 := hbl22 w16.heap.size w16 (Nat.le_refl _) hbk2
                                have hX : ak.map encN ++ [Value.int .i64 (j : Int)] = (ak ++ [(j : Int)]).map encN := by simp
                                rw [hX] at hrun ho22
                                rw [List.length_map, List.length_map] at hrun
                                have hs6 := OR.below hos19 ((Below.refl w20.heap.size w20).alloc (Nat.le_refl _) (.cells #[.int .i64 (j : Int)] 3))
                                replace hs6 : OR w22 w16.heap.size 9 _ cs' _ := World.ownsRow.kept hs6 hg22 (rows_ne hs6 (hok.below ((Below.refl w20.heap.size w20).alloc (Nat.le_refl _) (.cells #[.int .i64 (j : Int)] 3))) (by decide))
                                rw [← HE.out] at hrun ho22
                                have HR := hideP hrun
                                clear hrun hX hok hos19 hbl22 hg22 hin
                                go_wp2_with (at_builtin; refine Lib.wpList_append_run _ rfl _ _ _ _ rfl _ _ rfl rfl _ _ HR.out ?_)
                                go_roundw
                                case rel => exact ⟨k + 1, A', c', by omega, by go_num, rfl, ho22, hs6, hb22⟩
                                case measure => simp [intOf]; omega
                            · have dj : (wk == (j : Int)) = false := by simp [hwj]
                              have HE := hideP (allK_no (j := j) hko (by rw [HNK.out]; exact hwj))
                              clear hwj
                              go_wp2_with fail
                              go_roundw
                              case rel => exact ⟨k + 1, Ak, ck, by omega, by go_num, by rw [HE.out], by rw [HE.out]; exact hok, hos19, hbk2⟩
                              case measure => simp [intOf]; omega
                          · have HE := hideP (allK_all (ow := ow) (j := j) (k := k) (by omega))
                            rw [HE.out] at hok ⊢
                            go_wp2_with fail
                            go_roundw
                            case rel => exact ⟨j + 1, Ak, ck, by omega, by go_num, rfl, hok, hbk⟩
                            case measure => simp [intOf]; omega
                      · have hj5 : j = 4 := by omega
                        subst hj5
                        rw [HOW.out] at hoj ⊢
                        have g1 : ¬ (((4 : Nat) : Int) < 4) := by decide
                        replace hH := hH.below hbj
                        replace how := how.below hbj
                        have HEQ := hideP (ieq_any Aw Aj cw cj wo wo _ how.vs.is_int hoj.vs.is_int (by omega) (by omega))
                        simp only [decide_true] at HEQ
                        clear hN1 hN2 hoj how hbj HOW
                        go_wp2_with fail
                        refine HEQ.out.mono ?_
                        rintro e w23 ⟨rfl, hb23⟩
                        replace hH := hH.below hb23
                        clear HEQ hb23
                        go_wp2_with fail
                        go_meet
                        case rel => exact ⟨l, m, mb, n, rfl, by omega, hH⟩
                · as_aux_lemma =>
                    have HWH := hideP (who_bad g D cD d _ ((hos.below hH.be).more hH.be.size) hcd)
                    have HRD := hideP (fun (W : World) (h : Below w.heap.size w W) => rdeed_any D cD d W ((hos.below h).more h.size))
                    have d3 : (chkD d != 0) = true := by simp [hcd]
                    have d4 : (chkD d != chkD d) = false := by simp
                    generalize chkD d = e0 at HWH HRD d3 d4
                    clear hcd hp
                    go_wp2_with fail
                    refine HWH.out.mono ?_
                    rintro e w14 ⟨rfl, hb14⟩
                    replace hH := hH.below hb14
                    replace y20 := y20.below hb14
                    have z21 := y20.cell 0 (v := .slice D d.length cD) rfl
                    clear HWH hb14 z20 y21
                    go_wp2_with fail
                    refine (HRD.out _ hH.be).mono ?_
                    rintro e w15 ⟨rfl, hb15⟩
                    replace hH := hH.below hb15
                    clear HRD hb15 z21 y20
                    go_wp2_with fail
                    go_meet
                    case rel => exact ⟨l, m, mb, n, rfl, by omega, hH⟩
              · have d1 : (tg == 1) = false := by simp [h1]
                have d2 : (tg == 2) = false := by simp [h2]
                have d3 : (tg == 3) = false := by simp [h3]
                clear h1 h2 h3 y20 y21
                go_wp2_with fail
                go_meet
                case rel => exact ⟨l, m, mb, n, rfl, by omega, hH⟩
        case rest =>
          as_aux_lemma =>
            clear hH y20 y21
            obtain ⟨l, m, mb, n, rfl, hn', hH⟩ := hcut
            have hokl := hH.ok
            have hokm := hH.okm
            have hsm := hokl.small
            have hnn : n ≤ 500000000 := by omega
            have HAL := hideP (fun (W : World) (h : PyH w g gm l m mb n (some ⟨b, o, none⟩) cr rows W) => show Calls Tryz.prog 25 #[.pointer (some ⟨g, 0, none⟩)] W fun e w' => ∃ A c, e = .returned (.slice A l.length c) ∧ OV w' W.heap.size A c l ∧ Below W.heap.size W w' from by
              obtain ⟨A', ca', O', co', q, hp⟩ := h.pb
              exact all_ok w.heap.size g _ l q W hp)
            have HLI := hideP (fun (W : World) (h : PyH w g gm l m mb n (some ⟨b, o, none⟩) cr rows W) => list_mv mb n (valOf l) l W h.mv (by omega) hokl rfl)
            have HMP := hideP (fun (W : World) (h : PyH w g gm l m mb n (some ⟨b, o, none⟩) cr rows W) => show Calls Tryz.prog 5 #[.pointer (some ⟨g, 0, none⟩)] W fun e w' => ∃ A ca O co, e = .returned (.agg #[.slice A m.cs.length ca, .slice O m.os.length co]) ∧ MO w' W.heap.size ⟨A, ca, m.cs, O, co, m.os⟩ ∧ Below W.heap.size W w' from by
              obtain ⟨A', ca', O', co', q, hp⟩ := h.pb
              exact map_ok w.heap.size g ⟨A', ca', m.cs, O', co', m.os⟩ l q W hp)
            have HEQ := hideP (fun (W : World) (A1 A2 : Option Addr) (c1 c2 : Nat) (h1 : SV W A1 c1 l) (h2 : SV W A2 c2 l) => equal_same A1 A2 c1 c2 l W h1.ps h2.ps (by omega))
            have HSM := hideP (fun (W : World) (A1 O1 : Option Addr) (a1 o1 : Nat) (h1 : MO W w.heap.size ⟨A1, a1, m.cs, O1, o1, m.os⟩) (h : PyH w g gm l m mb n (some ⟨b, o, none⟩) cr rows W) => show Calls Tryz.prog 26 #[.agg #[.slice A1 m.cs.length a1, .slice O1 m.os.length o1], .agg #[.slice m.A m.cs.length m.ca, .slice m.O m.os.length m.co]] W fun e w' => e = .returned (.bool true) ∧ Below W.heap.size W w' from by
              have := samemap_any ⟨A1, a1, m.cs, O1, o1, m.os⟩ m W h1.ms h.ms
              simpa using this)
            have HS := hideP (fun (W : World) (h : PyH w g gm l m mb n (some ⟨b, o, none⟩) cr rows W) => h.c)
            go_wp2_with fail
            replace hH := hH.drew
            go_region_held3 (fun W => W.cell? ⟨gm, 0, none⟩ = some (.slice m.A m.cs.length m.ca) ∧ W.cell? ⟨gm, 1, none⟩ = some (.slice m.O m.os.length m.co)) (first | (with_reducible exact HS.out _ hH5) | (with_reducible exact HS.out _ hH4) | (with_reducible exact HS.out _ hH3) | (with_reducible exact HS.out _ hH2) | (with_reducible exact HS.out _ hH1) | (with_reducible exact HS.out _ hH)) (first
              | (go_at_call 26; refine (HSM.out _ A4 O4 a4 o4 (hmo.mono hH3.be.size) hH4).mono ?_; rintro e w25 ⟨rfl, hb25⟩; have hH5 := hH4.below hb25)
              | (go_at_call 5; refine (HMP.out _ hH3).mono ?_; rintro e w24 ⟨A4, a4, O4, o4, rfl, hmo, hb24⟩; have hH4 := hH3.below hb24)
              | (go_at_call 24; refine (HEQ.out _ A1 A2 c1 c2 (ho1.below hb22).sv hs2).mono ?_; rintro e w23 ⟨rfl, hb23⟩; have hH3 := hH2.below hb23)
              | (go_at_call 16; refine (HLI.out _ hH1).mono ?_; rintro e w22 ⟨A2, c2, rfl, hs2, hb22⟩; have hH2 := hH1.below hb22)
              | (go_at_call 25; refine (HAL.out _ hH).mono ?_; rintro e w21 ⟨A1, c1, rfl, ho1, hb21⟩; have hH1 := hH.below hb21))
            clear HAL HLI HMP HSM HEQ HS hH hH1 hH2 hH3 hH4 hmo ho1 hs2 hb21 hb22 hb23 hb24 hb25
            go_wp2_with fail
            go_loopw [41] (fun i wr => ∃ k : Int, -1 ≤ k ∧ k ≤ 5 ∧ i = .int .i64 k ∧ Below w25.heap.size w25 wr) (fun i _ => (5 - intOf i).toNat)
            case atStart => exact ⟨-1, by omega, by omega, rfl, Below.refl _ _⟩
            case round =>
              obtain ⟨k, hk1, hk5, rfl, hbk⟩ := hrel
              have hHk := hH5.below hbk
              by_cases hlt : k < 5
              · have wk : IntKind.i64.wrap (k + 1) = k + 1 := by simp only [IntKind.wrap_i64]; omega
                by_cases hbad : k < 0 ∨ 4 ≤ k
                · have hk : k = -1 ∨ k = 4 := by omega
                  rcases hk with rfl | rfl
                  · go_wp2_with fail
                    refine (ppart_bad g (-1) _ (by omega)).mono ?_
                    rintro e w26 ⟨rfl, rfl⟩
                    go_wp2_with fail
                    go_roundw
                    case rel => exact ⟨0, by omega, by omega, rfl, hbk⟩
                    case measure => simp [intOf]
                  · go_wp2_with fail
                    refine (ppart_bad g 4 _ (by omega)).mono ?_
                    rintro e w26 ⟨rfl, rfl⟩
                    go_wp2_with fail
                    go_roundw
                    case rel => exact ⟨5, by omega, by omega, rfl, hbk⟩
                    case measure => simp [intOf]
                · obtain ⟨j, rfl⟩ : ∃ j : Nat, k = (j : Int) := ⟨k.toNat, by omega⟩
                  have hj4 : j < 4 := by omega
                  have g1 : ¬ ((j : Int) < 0) := by omega
                  have g2 : ¬ ((3 : Int) < (j : Int)) := by omega
                  obtain ⟨A', ca', O', co', q, hp⟩ := hHk.pb
                  have HPP := hideP (ppart_ok w.heap.size g _ l q j _ hp hj4)
                  simp only at HPP
                  have hptk := ptL_ok (cs := m.cs) (os := m.os) hokl (j : Int)
                  have hvo : valOf (ptL m.cs m.os (j : Int) l) = ownF m.cs m.os (j : Int) (valOf l) := funext fun x => by
                    unfold ptL ownF
                    rw [valOf_filter hokl.srt (fun k => decide (whV m.cs m.os k = (j : Int)))]
                    by_cases e : whV m.cs m.os x = (j : Int) <;> simp [e]
                  have HVO := hideP hvo
                  have hpl : (ptL m.cs m.os (j : Int) l).length ≤ l.length := List.length_filter_le _ _
                  clear hvo hp hbad
                  generalize ptL m.cs m.os (j : Int) l = pt at HPP hptk HVO hpl
                  go_wp2_with fail
                  refine HPP.out.mono ?_
                  rintro e w26 ⟨A26, c26, rfl, ho26, hb26⟩
                  replace hHk := hHk.below hb26
                  have hbk2 := hbk.trans (hb26.mono hbk.size)
                  have hs26 := ho26.sv
                  obtain ⟨z1, z2⟩ := hHk.c
                  clear HPP hb26 ho26 hbk
                  go_wp2_with fail
                  refine (rowned_any m mb n (valOf l) (j : Int) _ hHk.mv hnn hHk.ms hokm).mono ?_
                  rintro e w27 ⟨bo, rfl, hmo, hb27⟩
                  have hbk3 := hbk2.trans (hb27.mono hbk2.size)
                  replace hs26 := hs26.below hb27
                  clear hb27 hbk2 z1 z2 hHk
                  go_wp2_with fail
                  refine (list_mv bo n _ pt _ hmo (by omega) hptk HVO.out).mono ?_
                  rintro e w28 ⟨A28, c28, rfl, hs28, hb28⟩
                  have hbk4 := hbk3.trans (hb28.mono hbk3.size)
                  replace hs26 := hs26.below hb28
                  clear hb28 hbk3 hmo
                  go_wp2_with fail
                  refine (equal_same _ _ _ _ pt _ hs26.ps hs28.ps (by omega)).mono ?_
                  rintro e w29 ⟨rfl, hb29⟩
                  have hbk5 := hbk4.trans (hb29.mono hbk4.size)
                  clear hb29 hbk4 hs26 hs28
                  go_wp2_with fail
                  go_roundw
                  case rel => exact ⟨(j : Int) + 1, by omega, by omega, rfl, hbk5⟩
                  case measure => simp [intOf]; omega
              · have HPy := hideP hHk
                clear hHk
                go_wp2_with fail
                go_roundw
                case rel => exact ⟨t + 1, l, m, mb, n, by omega, by go_num, rfl, by omega, HPy.out⟩
                case measure => simp [intOf]; omega
      · have hbe := hH.be
        go_wp2_with fail
        go_ret
        exact ⟨rfl, hbe⟩
  · as_aux_lemma =>
      have HNW := hideP (new_bad m A c l w3 (hm.below hb) ((hA.below hb).ps) hml (by omega) he)
      have HRM := hideP (fun (W : World) (h : Below w.heap.size w W) => rmap_any m W (hm.below h) hml)
      have HRS := hideP (fun (W : World) (h : Below w.heap.size w W) => rstore_any A c l W (hA.below h).ps (by omega))
      by_cases hck : chkM m.cs m.os = 0
      · have hev : errV m.cs m.os l = chk ByteArray.empty l := by unfold errV; rw [if_neg (by simp [hck])]
        rw [hev] at HNW he
        rw [hck] at HRM
        have d1 : (chk ByteArray.empty l != 0) = true := by simp [he]
        have d2 : (chk ByteArray.empty l == chk ByteArray.empty l) = true := by simp
        generalize chk ByteArray.empty l = e0 at HNW HRS d1 d2
        clear he hck hev
        go_wp2_with fail
        refine HNW.out.mono ?_
        rintro e w4 ⟨rfl, hb4⟩
        replace y := y.below hb4
        replace hb := hb.trans (hb4.mono hb.size)
        clear HNW hb4 z1 z2
        obtain ⟨z1, z2⟩ : w4.cell? ⟨w.heap.size, 0, none⟩ = some (.slice m.A m.cs.length m.ca) ∧ w4.cell? ⟨w.heap.size, 1, none⟩ = some (.slice m.O m.os.length m.co) := ⟨y.cell 0 rfl, y.cell 1 rfl⟩
        go_wp2_with fail
        refine (HRM.out _ hb).mono ?_
        rintro e w5 ⟨rfl, hb5⟩
        replace hb := hb.trans (hb5.mono hb.size)
        clear HRM hb5 z1 z2 y
        go_wp2_with fail
        refine (HRS.out _ hb).mono ?_
        rintro e w6 ⟨rfl, hb6⟩
        replace hb := hb.trans (hb6.mono hb.size)
        clear HRS hb6
        go_wp2_with fail
        go_ret
        exact ⟨rfl, hb⟩
      · have hev : errV m.cs m.os l = chkM m.cs m.os := by unfold errV; rw [if_pos hck]
        rw [hev] at HNW he
        have d0 : (chkM m.cs m.os == 0) = false := by simp [he]
        have d1 : (chkM m.cs m.os != 0) = true := by simp [he]
        have d2 : (chkM m.cs m.os == chkM m.cs m.os) = true := by simp
        generalize chkM m.cs m.os = e0 at HNW HRM d0 d1 d2
        clear he hck hev
        go_wp2_with fail
        refine HNW.out.mono ?_
        rintro e w4 ⟨rfl, hb4⟩
        replace y := y.below hb4
        replace hb := hb.trans (hb4.mono hb.size)
        clear HNW hb4 z1 z2
        obtain ⟨z1, z2⟩ : w4.cell? ⟨w.heap.size, 0, none⟩ = some (.slice m.A m.cs.length m.ca) ∧ w4.cell? ⟨w.heap.size, 1, none⟩ = some (.slice m.O m.os.length m.co) := ⟨y.cell 0 rfl, y.cell 1 rfl⟩
        go_wp2_with fail
        refine (HRM.out _ hb).mono ?_
        rintro e w5 ⟨rfl, hb5⟩
        replace hb := hb.trans (hb5.mono hb.size)
        clear HRM hb5 z1 z2 y
        go_wp2_with fail
        go_ret
        exact ⟨rfl, hb⟩
end Go.Proofs.YtpefdonhacmaoaaGreatDoor
