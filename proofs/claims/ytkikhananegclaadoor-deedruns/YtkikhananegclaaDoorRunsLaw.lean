/-
  rolaw.DeedRuns: the law answers true.
-/
import Derived.Deep.RegionHeld3
import Derived.Test.YtkikhananegclaaDoorRunsWalk
set_option linter.unusedVariables false
set_option linter.unusedSimpArgs false
namespace Go.Proofs.YtkikhananegclaaDoor
open Go.RowKit Go.WideMaps Go.Maps

theorem OS.lit1 (w W : World) (o : Opr) (t : TypeId) (hW : W = w.alloc (.cells #[.int .i64 o.kind, .string o.key, .string o.src, .int .i64 o.n] t)) (g : Nat) (hg : g = w.heap.size) : OS W W.heap.size (some ⟨g, 0, none⟩) [o] := by
  subst hW; subst hg
  intro i p hp
  cases i with
  | zero => simp at hp; subst hp; exact ⟨w.heap.size, 0, rfl, by simp, by simp, by simp, by simp, by simp⟩
  | succ i => simp at hp
/-- what is at hand -/
structure Hand (w0 : World) (A : Option Addr) (c : Nat) (l : List Pr) (g : Nat) (D : Option Addr) (k : Nat) (d : List Opr) (E : Option Addr) (ds : List Dl) (w : World) : Prop where
  sv : SV w A c l
  bx : Box w g 24 #[.slice D d.length k]
  os : OS w w.heap.size D d
  ds : DS w E ds
  be : Below w0.heap.size w0 w
theorem Hand.below {w0 : World} {A : Option Addr} {c : Nat} {l : List Pr} {g : Nat} {D : Option Addr} {k : Nat} {d : List Opr} {E : Option Addr} {ds : List Dl} {w w' : World} (h : Hand w0 A c l g D k d E ds w) (hb : Below w.heap.size w w') : Hand w0 A c l g D k d E ds w' :=
  ⟨h.sv.below hb, h.bx.below hb, h.os.go hb, h.ds.below hb, h.be.trans (hb.mono h.be.size)⟩

set_option maxHeartbeats 4000000 in
set_option maxRecDepth 100000 in
theorem runs_good (A D E : Option Addr) (c k ce : Nat) (l : List Pr) (d : List Opr) (ds : List Dl) (w : World) (hA : SV w A c l) (h : Ok l) (hd : OS w w.heap.size D d) (hds : DS w E ds) :
    Calls Tryd.prog 4 #[.slice A l.length c, .agg #[.slice D d.length k], .slice E ds.length ce] w fun e w' => e = .returned (.bool true) ∧ Below w.heap.size w w' := by
  have hb0 := (Below.refl w.heap.size w).alloc (Nat.le_refl _) (.cells #[.slice D d.length k] 24)
  have hH : Hand w A c l w.heap.size D k d E ds (w.alloc (.cells #[.slice D d.length k] 24)) := ⟨hA.below hb0, Box.new w _ _, hd.go hb0, hds.below hb0, hb0⟩
  have hsm := h.small
  have hvb := h.vb
  have HC := hideP (chk_ok.2 h)
  have dn : ∀ q : Int, (q != q) = false := fun q => by simp
  have db : ∀ q : Bool, (q != q) = false := fun q => by simp
  clear hA hd hds hb0
  go_enter Tryd.func4, Tryd.ntmps4
  go_wp2_with fail
  generalize w.alloc (.cells #[.slice D d.length k] 24) = w0 at hH ⊢
  refine (run_res A D c k l d _ hH.sv h hH.os).mono ?_
  rintro e w1 ⟨Ax, cx, lx, ok, ec, rfl, hx, hb1, hres⟩
  have HRES := hideP hres
  replace hH := hH.below hb1
  clear hb1 hres
  go_wp2_with fail
  refine (serial_res A E c ce l ds _ hH.sv h hH.ds).mono ?_
  rintro e w2 ⟨Ay, cy, ly, Ao, co, bs, fc, rfl, hy, ho, hb2, hser⟩
  have HSER := hideP hser
  replace hH := hH.below hb2
  replace hx := hx.below hb2
  clear hb2 hser
  have hlx : lx.length ≤ 387420489 := by rcases HRES.out with ⟨_, _, e, _⟩ | ⟨_, _, hk, _⟩; rw [e]; simp; exact hk.small
  have hly : ly.length ≤ 387420489 := by rcases HSER.out with ⟨_, _, e, _⟩ | ⟨_, _, hk, _⟩; rw [e]; simp; exact hk.small
  go_wp2_with fail
  have ho1 := OS.lit1 w2 (w2.alloc (.cells #[.int .i64 1, .string ⟨#[97]⟩, .string ⟨#[]⟩, .int .i64 5] 46)) ⟨1, ka, ByteArray.empty, 5⟩ 46 rfl w2.heap.size rfl
  have hab := (Below.refl w2.heap.size w2).alloc (Nat.le_refl _) (.cells #[.int .i64 1, .string ⟨#[97]⟩, .string ⟨#[]⟩, .int .i64 5] 46)
  replace hH := hH.below hab
  replace hx := hx.below hab
  replace hy := hy.below hab
  replace ho := ho.below hab
  clear hab
  have hs2 : (w2.alloc (.cells #[.int .i64 1, .string ⟨#[97]⟩, .string ⟨#[]⟩, .int .i64 5] 46)).heap.size = w2.heap.size + 1 := by simp
  obtain ⟨g2, hg2⟩ : ∃ g2, g2 = w2.heap.size := ⟨_, rfl⟩
  rw [← hg2] at ho1 ⊢
  generalize w2.alloc (.cells #[.int .i64 1, .string ⟨#[97]⟩, .string ⟨#[]⟩, .int .i64 5] 46) = w3 at hH hx hy ho ho1 ⊢
  clear hs2 hg2
  refine (run_ok none _ 0 1 [] [⟨1, ka, ByteArray.empty, 5⟩] _ (SV.nil w3) Ok.nil ho1 (by decide +kernel)).mono ?_
  rw [begun_set]
  rintro e w4 ⟨A4, c4, l4, rfl, hO4, hok4, hv4, hb4⟩
  obtain rfl := hok4.ext a5_ok (fun k => by rw [hv4])
  replace hH := hH.below hb4
  replace hx := hx.below hb4
  replace hy := hy.below hb4
  replace ho := ho.below hb4
  have hz := hO4.sv
  clear hb4 hv4 hO4 ho1
  go_wp2_with fail
  have hl5 : SV (w4.alloc (.cells #[.string ⟨#[97]⟩, .int .i64 5] 49)) (some ⟨w4.heap.size, 0, none⟩) 1 [(ka, 5)] := SV.lit1 w4 ka 5 _
  have hab := (Below.refl w4.heap.size w4).alloc (Nat.le_refl _) (.cells #[.string ⟨#[97]⟩, .int .i64 5] 49)
  replace hH := hH.below hab
  replace hx := hx.below hab
  replace hy := hy.below hab
  replace ho := ho.below hab
  replace hz := hz.below hab
  refine (equal_same _ _ _ _ [(ka, 5)] _ hz.ps hl5.ps (by simp)).mono ?_
  rintro e w5 ⟨rfl, hb5⟩
  replace hH := hH.below hb5
  replace hx := hx.below hb5
  replace hy := hy.below hb5
  replace ho := ho.below hb5
  clear hb5 hab hl5 hz
  go_wp2_with fail
  refine (rstore_any A c l _ hH.sv.ps (by omega)).mono ?_
  rintro e w6 ⟨rfl, hb6⟩
  rw [HC.out]
  replace hH := hH.below hb6
  replace hx := hx.below hb6
  replace hy := hy.below hb6
  replace ho := ho.below hb6
  have z1 := hH.bx.cell 0 (v := .slice D d.length k) rfl
  clear hb6
  go_wp2_with fail
  refine (rdeed_any D k d _ hH.os).mono ?_
  rintro e w7 ⟨rfl, hb7⟩
  replace hH := hH.below hb7
  replace hx := hx.below hb7
  replace hy := hy.below hb7
  replace ho := ho.below hb7
  clear hb7 z1
  have z1 := hH.bx.cell 0 (v := .slice D d.length k) rfl
  by_cases hcd : chkD d = 0
  · rcases HRES.out with ⟨h0, _⟩ | ⟨_, rfl, hokx, hvx, rfl⟩
    · exact absurd hcd h0
    rw [hcd]
    have HVX := hideP hvx
    clear hvx HRES
    go_wp2_with fail
    replace hH := hH.below (Below.refl _ _).drew
    replace hx := hx.below (Below.refl _ _).drew
    replace hy := hy.below (Below.refl _ _).drew
    replace ho := ho.below (Below.refl _ _).drew
    clear z1
    have z1 := hH.bx.cell 0 (v := .slice D d.length k) rfl
    go_region_held3 (fun w' => w'.cell? ⟨w.heap.size, 0, none⟩ = some (.slice D d.length k)) (with_reducible exact z1) (first
      | (go_at_call 18
         refine (of_mv A c l _ hH.sv h).mono ?_
         rintro e w8 ⟨bm, rfl, hM, hb8⟩
         replace hH := hH.below hb8
         replace hx := hx.below hb8
         replace hy := hy.below hb8
         replace ho := ho.below hb8
         clear hb8 z1
         have z1 := hH.bx.cell 0 (v := .slice D d.length k) rfl)
      | (go_at_call 17
         refine (rrunR_done bm _ (valOf l) D k d _ hM (by omega) hvb hH.os hcd).mono ?_
         rintro e w9 ⟨b2, rfl, hM2, hb9⟩
         replace hH := hH.below hb9
         replace hx := hx.below hb9
         replace hy := hy.below hb9
         replace ho := ho.below hb9
         clear hb9 z1 hM
         have z1 := hH.bx.cell 0 (v := .slice D d.length k) rfl))
    clear z1
    generalize doneV (valOf l) d = dn1 at HVX hM2 ⊢
    have dd := db dn1.2
    go_wp2_with fail
    refine (list_mv b2 _ dn1.1 lx _ hM2 (by omega) hokx HVX.out).mono ?_
    rintro e w9' ⟨A3, c3, rfl, hl3, hb9'⟩
    replace hH := hH.below hb9'
    replace hx := hx.below hb9'
    replace hy := hy.below hb9'
    replace ho := ho.below hb9'
    clear hb9' hM2
    go_wp2_with fail
    refine (equal_same _ _ _ _ lx _ hx.ps hl3.ps (by omega)).mono ?_
    rintro e w9'' ⟨rfl, hb9''⟩
    replace hH := hH.below hb9''
    replace hy := hy.below hb9''
    replace ho := ho.below hb9''
    clear hb9'' hl3 hx
    go_wp2_with fail
    refine (rdeeds_any E ce ds _ hH.ds).mono ?_
    rintro e w10 ⟨rfl, hb10⟩
    replace hH := hH.below hb10
    replace hy := hy.below hb10
    replace ho := ho.below hb10
    clear hb10
    by_cases hcl : chkL (ds.map (·.d)) = 0
    · rcases HSER.out with ⟨h0, _⟩ | ⟨_, rfl, hoky, hvy, rfl⟩
      · exact absurd hcl h0
      rw [hcl]
      have hle : ds.length ≤ 60 := by
        rcases Nat.lt_or_ge 60 ds.length with h6 | h6
        · unfold chkL at hcl; rw [if_pos (by simpa using h6)] at hcl; cases hcl
        · exact h6
      have hall : ∀ x ∈ ds, chkD x.d = 0 := fun x hx => by
        unfold chkL at hcl
        rw [if_neg (by simp; omega)] at hcl
        exact chkDs_zero.1 hcl _ (List.mem_map.2 ⟨x, hx, rfl⟩)
      have hslen := serV_len (valOf l) (ds.map (·.d))
      have HSL := hideP hslen
      have HVY := hideP hvy
      clear hslen hvy hcl HSER
      go_wp2_with fail
      refine (of_mv A c l _ hH.sv h).mono ?_
      rintro e w11 ⟨bm, rfl, hM, hb11⟩
      replace hH := hH.below hb11
      replace hy := hy.below hb11
      replace ho := ho.below hb11
      clear hb11
      go_wp2_with fail
      refine (rserial_any bm _ (valOf l) E ce ds _ hM (by omega) hvb hH.ds hle hall).mono ?_
      rintro e w12 ⟨b2, A2, c2, rfl, hM2, hor, hb12⟩
      replace hH := hH.below hb12
      replace hy := hy.below hb12
      replace ho := ho.below hb12
      have hall2 := hor.vs
      clear hb12 hM hor
      have hsl : (serV (valOf l) (ds.map (·.d))).2.length ≤ 60 := by rw [HSL.out]; simpa using hle
      generalize serV (valOf l) (ds.map (·.d)) = r at HVY hM2 hall2 ho hsl ⊢
      go_wp2_with fail
      refine (list_mv b2 _ r.1 ly _ hM2 (by omega) hoky HVY.out).mono ?_
      rintro e w13 ⟨A3, c3, rfl, hl3, hb13⟩
      replace hH := hH.below hb13
      replace hy := hy.below hb13
      replace ho := ho.below hb13
      replace hall2 := hall2.below hb13
      clear hb13
      go_wp2_with fail
      refine (equal_same _ _ _ _ ly _ hy.ps hl3.ps (by omega)).mono ?_
      rintro e w14 ⟨rfl, hb14⟩
      replace hH := hH.below hb14
      replace ho := ho.below hb14
      replace hall2 := hall2.below hb14
      clear hb14
      go_wp2_with fail
      refine (bequal_same _ _ _ _ r.2 _ ho hall2 (by omega)).mono ?_
      rintro e w15 ⟨rfl, hb15⟩
      replace hH := hH.below hb15
      have hbe := hH.be
      go_wp2_with fail
      go_ret
      exact ⟨rfl, hbe⟩
    · rcases HSER.out with ⟨_, rfl, rfl, rfl⟩ | ⟨h0, _⟩
      · have hbe := hH.be
        have d1 : (chkL (ds.map (·.d)) != 0) = true := by simp [hcl]
        have d2 : (chkL (ds.map (·.d)) == chkL (ds.map (·.d))) = true := by simp
        clear hcl HSER
        generalize chkL (ds.map (·.d)) = q2 at d1 d2 ⊢
        go_wp2_with fail
        go_ret
        exact ⟨rfl, hbe⟩
      · exact absurd h0 hcl
  · rcases HRES.out with ⟨_, rfl, rfl, rfl⟩ | ⟨h0, _⟩
    · have d1 : (chkD d != 0) = true := by simp [hcd]
      have d2 := dn (chkD d)
      clear hcd HRES
      generalize chkD d = q at d1 d2 ⊢
      go_wp2_with fail
      refine (rdeeds_any E ce ds _ hH.ds).mono ?_
      rintro e w10 ⟨rfl, hb10⟩
      replace hH := hH.below hb10
      replace hy := hy.below hb10
      replace ho := ho.below hb10
      clear hb10
      by_cases hcl : chkL (ds.map (·.d)) = 0
      · rcases HSER.out with ⟨h0, _⟩ | ⟨_, rfl, hoky, hvy, rfl⟩
        · exact absurd hcl h0
        rw [hcl]
        have hle : ds.length ≤ 60 := by
          rcases Nat.lt_or_ge 60 ds.length with h6 | h6
          · unfold chkL at hcl; rw [if_pos (by simpa using h6)] at hcl; cases hcl
          · exact h6
        have hall : ∀ x ∈ ds, chkD x.d = 0 := fun x hx => by
          unfold chkL at hcl
          rw [if_neg (by simp; omega)] at hcl
          exact chkDs_zero.1 hcl _ (List.mem_map.2 ⟨x, hx, rfl⟩)
        have hslen := serV_len (valOf l) (ds.map (·.d))
        have HSL := hideP hslen
        have HVY := hideP hvy
        clear hslen hvy hcl HSER
        go_wp2_with fail
        refine (of_mv A c l _ hH.sv h).mono ?_
        rintro e w11 ⟨bm, rfl, hM, hb11⟩
        replace hH := hH.below hb11
        replace hy := hy.below hb11
        replace ho := ho.below hb11
        clear hb11
        go_wp2_with fail
        refine (rserial_any bm _ (valOf l) E ce ds _ hM (by omega) hvb hH.ds hle hall).mono ?_
        rintro e w12 ⟨b2, A2, c2, rfl, hM2, hor, hb12⟩
        replace hH := hH.below hb12
        replace hy := hy.below hb12
        replace ho := ho.below hb12
        have hall2 := hor.vs
        clear hb12 hM hor
        have hsl : (serV (valOf l) (ds.map (·.d))).2.length ≤ 60 := by rw [HSL.out]; simpa using hle
        generalize serV (valOf l) (ds.map (·.d)) = r at HVY hM2 hall2 ho hsl ⊢
        go_wp2_with fail
        refine (list_mv b2 _ r.1 ly _ hM2 (by omega) hoky HVY.out).mono ?_
        rintro e w13 ⟨A3, c3, rfl, hl3, hb13⟩
        replace hH := hH.below hb13
        replace hy := hy.below hb13
        replace ho := ho.below hb13
        replace hall2 := hall2.below hb13
        clear hb13
        go_wp2_with fail
        refine (equal_same _ _ _ _ ly _ hy.ps hl3.ps (by omega)).mono ?_
        rintro e w14 ⟨rfl, hb14⟩
        replace hH := hH.below hb14
        replace ho := ho.below hb14
        replace hall2 := hall2.below hb14
        clear hb14
        go_wp2_with fail
        refine (bequal_same _ _ _ _ r.2 _ ho hall2 (by omega)).mono ?_
        rintro e w15 ⟨rfl, hb15⟩
        replace hH := hH.below hb15
        have hbe := hH.be
        go_wp2_with fail
        go_ret
        exact ⟨rfl, hbe⟩
      · rcases HSER.out with ⟨_, rfl, rfl, rfl⟩ | ⟨h0, _⟩
        · have hbe := hH.be
          have d1 : (chkL (ds.map (·.d)) != 0) = true := by simp [hcl]
          have d2 : (chkL (ds.map (·.d)) == chkL (ds.map (·.d))) = true := by simp
          clear hcl HSER
          generalize chkL (ds.map (·.d)) = q2 at d1 d2 ⊢
          go_wp2_with fail
          go_ret
          exact ⟨rfl, hbe⟩
        · exact absurd h0 hcl
    · exact absurd h0 hcd

set_option maxHeartbeats 2000000 in
set_option maxRecDepth 100000 in
theorem runs_bad (A D E : Option Addr) (c k ce : Nat) (l : List Pr) (d : List Opr) (ds : List Dl) (w : World) (hA : SV w A c l) (hl : l.length < 4611686018427387904) (h : chk ByteArray.empty l ≠ 0) (hd : OS w w.heap.size D d) (hds : DS w E ds) :
    Calls Tryd.prog 4 #[.slice A l.length c, .agg #[.slice D d.length k], .slice E ds.length ce] w fun e w' => e = .returned (.bool true) ∧ Below w.heap.size w w' := by
  have hb0 := (Below.refl w.heap.size w).alloc (Nat.le_refl _) (.cells #[.slice D d.length k] 24)
  have hH : Hand w A c l w.heap.size D k d E ds (w.alloc (.cells #[.slice D d.length k] 24)) := ⟨hA.below hb0, Box.new w _ _, hd.go hb0, hds.below hb0, hb0⟩
  have hr : chkR l d = chk ByteArray.empty l := by simp [chkR, h]
  have H1 := fun W (h1 : SV W A c l) (h2 : OS W W.heap.size D d) => run_bad A D c k l d W h1 hl h2 (by rw [hr]; exact h)
  rw [hr] at H1
  have H2 := fun W (h1 : SV W A c l) => serial_bad A E c ce l ds.length W h1 hl h
  have H3 := fun W (h1 : SV W A c l) => rstore_any A c l W h1.ps hl
  have d1 : (chk ByteArray.empty l != 0) = true := by simp [h]
  have d2 : (chk ByteArray.empty l == chk ByteArray.empty l) = true := by simp
  clear hA hd hds hb0 h hr
  generalize chk ByteArray.empty l = q at H1 H2 H3 d1 d2
  replace H1 := hideP H1
  replace H2 := hideP H2
  replace H3 := hideP H3
  go_enter Tryd.func4, Tryd.ntmps4
  go_wp2_with fail
  generalize w.alloc (.cells #[.slice D d.length k] 24) = w0 at hH ⊢
  refine (H1.out _ hH.sv hH.os).mono ?_
  rintro e w1 ⟨rfl, hb1⟩
  replace hH := hH.below hb1
  clear hb1
  go_wp2_with fail
  refine (H2.out _ hH.sv).mono ?_
  rintro e w2 ⟨rfl, hb2⟩
  replace hH := hH.below hb2
  clear hb2
  go_wp2_with fail
  have ho1 := OS.lit1 w2 (w2.alloc (.cells #[.int .i64 1, .string ⟨#[97]⟩, .string ⟨#[]⟩, .int .i64 5] 46)) ⟨1, ka, ByteArray.empty, 5⟩ 46 rfl w2.heap.size rfl
  have hab := (Below.refl w2.heap.size w2).alloc (Nat.le_refl _) (.cells #[.int .i64 1, .string ⟨#[97]⟩, .string ⟨#[]⟩, .int .i64 5] 46)
  replace hH := hH.below hab
  clear hab
  obtain ⟨g2, hg2⟩ : ∃ g2, g2 = w2.heap.size := ⟨_, rfl⟩
  rw [← hg2] at ho1 ⊢
  generalize w2.alloc (.cells #[.int .i64 1, .string ⟨#[97]⟩, .string ⟨#[]⟩, .int .i64 5] 46) = w3 at hH ho1 ⊢
  clear hg2
  refine (run_ok none _ 0 1 [] [⟨1, ka, ByteArray.empty, 5⟩] _ (SV.nil w3) Ok.nil ho1 (by decide +kernel)).mono ?_
  rw [begun_set]
  rintro e w4 ⟨A4, c4, l4, rfl, hO4, hok4, hv4, hb4⟩
  obtain rfl := hok4.ext a5_ok (fun k => by rw [hv4])
  replace hH := hH.below hb4
  have hz := hO4.sv
  clear hb4 hv4 hO4 ho1
  go_wp2_with fail
  have hl5 : SV (w4.alloc (.cells #[.string ⟨#[97]⟩, .int .i64 5] 49)) (some ⟨w4.heap.size, 0, none⟩) 1 [(ka, 5)] := SV.lit1 w4 ka 5 _
  have hab := (Below.refl w4.heap.size w4).alloc (Nat.le_refl _) (.cells #[.string ⟨#[97]⟩, .int .i64 5] 49)
  replace hH := hH.below hab
  replace hz := hz.below hab
  refine (equal_same _ _ _ _ [(ka, 5)] _ hz.ps hl5.ps (by simp)).mono ?_
  rintro e w5 ⟨rfl, hb5⟩
  replace hH := hH.below hb5
  clear hb5 hab hl5 hz
  go_wp2_with fail
  refine (H3.out _ hH.sv).mono ?_
  rintro e w6 ⟨rfl, hb6⟩
  replace hH := hH.below hb6
  have hbe := hH.be
  go_wp2_with fail
  go_ret
  exact ⟨rfl, hbe⟩
theorem runs_any (A D E : Option Addr) (c k ce : Nat) (l : List Pr) (d : List Opr) (ds : List Dl) (w : World) (hA : SV w A c l) (hl : l.length < 4611686018427387904) (hd : OS w w.heap.size D d) (hds : DS w E ds) :
    Calls Tryd.prog 4 #[.slice A l.length c, .agg #[.slice D d.length k], .slice E ds.length ce] w fun e w' => e = .returned (.bool true) ∧ Below w.heap.size w w' := by
  by_cases h : chk ByteArray.empty l = 0
  · exact runs_good A D E c k ce l d ds w hA (chk_ok.1 h) hd hds
  · exact runs_bad A D E c k ce l d ds w hA hl h hd hds
end Go.Proofs.YtkikhananegclaaDoor
