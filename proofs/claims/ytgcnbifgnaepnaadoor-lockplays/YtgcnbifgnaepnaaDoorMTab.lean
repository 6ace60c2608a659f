/-
  roref's Table: Is, May and Ready.
-/
import Derived.Test.YtgcnbifgnaepnaaDoorDdOf
import Derived.Test.YtgcnbifgnaepnaaDoorRClash
import Derived.Test.YtgcnbifgnaepnaaDoorRKey
import Derived.Deep.RegionHeld3
import Derived.Deep.QuietTactic
import Derived.BigQuiet
set_option linter.unusedVariables false
set_option linter.unusedSimpArgs false
namespace Go.Proofs.YtgcnbifgnaepnaaDoor
open Go.RowKit Go.WideMaps Go.Maps

/-- the document's table at block mb: all that were added, and who is gone -/
structure MTx (w : World) (B mb : Nat) (ds : List Dl) (gl : List Bool) (A : Option Addr) (c : Nat) (G : Option Addr) (cg : Nat) : Prop where
  box : Box w mb 31 #[.slice A ds.length c, .slice G gl.length cg]
  low : B ≤ mb
  deeds : OR w B 36 A c (ds.map dlV)
  gone : OR w B 4 G cg (gl.map Value.bool)
  len : gl.length = ds.length
  most : ds.length ≤ 60
  good : ∀ x ∈ ds, OS w B x.D x.d ∧ chkD x.d = 0
def MT (w : World) (B mb : Nat) (ds : List Dl) (gl : List Bool) : Prop := ∃ A c G cg, MTx w B mb ds gl A c G cg
def goneF (gl : List Bool) : Nat → Bool := fun i => gl.getD i false
section
variable {w w' : World} {B mb : Nat} {ds : List Dl} {gl : List Bool} {A : Option Addr} {c : Nat} {G : Option Addr} {cg : Nat}
theorem MTx.below (h : MTx w B mb ds gl A c G cg) (hb : Below w.heap.size w w') : MTx w' B mb ds gl A c G cg :=
  ⟨h.box.below hb, h.low, h.deeds.below hb, h.gone.below hb, h.len, h.most, fun x hx => ⟨(h.good x hx).1.below (hb.mono (by have := h.low; have := h.box.lt; omega)), (h.good x hx).2⟩⟩
theorem MT.below (h : MT w B mb ds gl) (hb : Below w.heap.size w w') : MT w' B mb ds gl := by
  obtain ⟨A, c, G, cg, h⟩ := h; exact ⟨A, c, G, cg, h.below hb⟩
end
theorem MTx.kp {w w' : World} {B mb : Nat} {ds : List Dl} {gl : List Bool} {A : Option Addr} {c : Nat} {G : Option Addr} {cg : Nat} (h : MTx w B mb ds gl A c G cg) (k : Kp B w w') : MTx w' B mb ds gl A c G cg :=
  ⟨h.box.kp k (by decide) (by decide) (by decide), h.low, h.deeds.kp k (by decide) (by decide) (by decide), h.gone.kp k (by decide) (by decide) (by decide), h.len, h.most, fun x hx => ⟨(h.good x hx).1.below k.bel, (h.good x hx).2⟩⟩
theorem MT.kp {w w' : World} {B mb : Nat} {ds : List Dl} {gl : List Bool} (h : MT w B mb ds gl) (k : Kp B w w') : MT w' B mb ds gl := by
  obtain ⟨A, c, G, cg, h⟩ := h; exact ⟨A, c, G, cg, h.kp k⟩
/-- one is gone -/
theorem MTx.set_ {w : World} {B mb : Nat} {ds : List Dl} {gl : List Bool} {A : Option Addr} {c gb cg : Nat} (h : MTx w B mb ds gl A c (some ⟨gb, 0, none⟩) cg) {k : Nat} (hk : k < gl.length) : MTx (w.setCell ⟨gb, k, none⟩ (.bool true)) B mb ds (gl.set k true) A c (some ⟨gb, 0, none⟩) cg := by
  have hg := grown_setCell w ⟨gb, k, none⟩ (.bool true)
  have hB : B ≤ w.heap.size := by have := h.low; have := h.box.lt; omega
  have hlow : B ≤ gb := (World.ownsRow.lt h.gone gb rfl).1
  have hbel : Below B w (w.setCell ⟨gb, k, none⟩ (.bool true)) := (Below.refl B w).grown hg hB fun b hb => by injection hb with hb; subst hb; exact hlow
  refine ⟨?_, h.low, h.deeds.kept hg (own_ne h.deeds h.gone.ty_ (by decide)), ?_, by rw [List.length_set]; exact h.len, h.most, fun x hx => ⟨(h.good x hx).1.below hbel, (h.good x hx).2⟩⟩
  · rw [List.length_set]
    exact h.box.grown hg fun e => by
      injection e with e
      have := h.box.ty
      rw [e] at this
      exact absurd (this.inj h.gone.ty_) (by decide)
  · rw [List.map_set]; exact h.gone.set_ (by simpa using hk) _
/-- the document's table, to be read: its transactions may be the caller's -/
structure MRx (w : World) (B mb : Nat) (ds : List Dl) (gl : List Bool) (A : Option Addr) (c : Nat) (G : Option Addr) (cg : Nat) : Prop where
  box : Box w mb 31 #[.slice A ds.length c, .slice G gl.length cg]
  low : B ≤ mb
  deeds : VS w A (ds.map dlV)
  gone : VS w G (gl.map Value.bool)
  len : gl.length = ds.length
  most : ds.length ≤ 60
  good : ∀ x ∈ ds, OS w w.heap.size x.D x.d ∧ chkD x.d = 0
def MR (w : World) (B mb : Nat) (ds : List Dl) (gl : List Bool) : Prop := ∃ A c G cg, MRx w B mb ds gl A c G cg
theorem MRx.below {w w' : World} {B mb : Nat} {ds : List Dl} {gl : List Bool} {A : Option Addr} {c : Nat} {G : Option Addr} {cg : Nat} (h : MRx w B mb ds gl A c G cg) (hb : Below w.heap.size w w') : MRx w' B mb ds gl A c G cg :=
  ⟨h.box.below hb, h.low, h.deeds.below hb, h.gone.below hb, h.len, h.most, fun x hx => ⟨(h.good x hx).1.go hb, (h.good x hx).2⟩⟩
theorem MR.below {w w' : World} {B mb : Nat} {ds : List Dl} {gl : List Bool} (h : MR w B mb ds gl) (hb : Below w.heap.size w w') : MR w' B mb ds gl := by
  obtain ⟨A, c, G, cg, h⟩ := h; exact ⟨A, c, G, cg, h.below hb⟩
theorem MT.mr {w : World} {B mb : Nat} {ds : List Dl} {gl : List Bool} (h : MT w B mb ds gl) : MR w B mb ds gl := by
  obtain ⟨A, c, G, cg, h⟩ := h
  exact ⟨A, c, G, cg, h.box, h.low, h.deeds.vs, h.gone.vs, h.len, h.most, fun x hx => ⟨(h.good x hx).1.more (by have := h.low; have := h.box.lt; omega), (h.good x hx).2⟩⟩
/-- is a number in the table? -/
def isV (gl : List Bool) (s : Int) : Bool := decide (0 ≤ s) && decide (s ≤ (gl.length : Int) - 1) && !gl.getD s.toNat false
theorem isV_nat {gl : List Bool} {k : Nat} (h : k < gl.length) : isV gl (k : Int) = !gl.getD k false := by
  unfold isV
  rw [decide_eq_true (by omega), decide_eq_true (by omega), Int.toNat_natCast]; rfl

set_option maxHeartbeats 400000 in
set_option maxRecDepth 100000 in
theorem mis_any (mb B : Nat) (ds : List Dl) (gl : List Bool) (s : Int) (w : World) (h : MR w B mb ds gl) :
    Calls Tryd.prog 11 #[.pointer (some ⟨mb, 0, none⟩), .int .i64 s] w fun e w' => e = .returned (.bool (isV gl s)) ∧ Below w.heap.size w w' := by
  obtain ⟨A, c, G, cg, h⟩ := h
  have c0 := h.box.cell 0 (v := .slice A ds.length c) rfl
  have c1 := h.box.cell 1 (v := .slice G gl.length cg) rfl
  have hlen := h.len
  have hm := h.most
  by_cases hin : 0 ≤ s ∧ s ≤ (ds.length : Int) - 1
  · obtain ⟨k, rfl⟩ := Int.eq_ofNat_of_zero_le hin.1
    have hk : k < gl.length := by omega
    obtain ⟨b, o, rfl, hbl, q1⟩ := h.gone k (.bool gl[k]) (by simp [hk])
    have HV := hideP (show isV gl (k : Int) = !gl[k] by rw [isV_nat hk]; simp [List.getD_eq_getElem?_getD, hk])
    clear h
    generalize gl[k] = z at q1 HV
    have HI := hideP hin
    have d1 : decide ((0 : Int) ≤ (k : Int)) = true := decide_eq_true (by omega)
    have d2 : decide ((k : Int) ≤ (ds.length : Int) - 1) = true := decide_eq_true (by omega)
    have g1 : (0 : Int) ≤ (k : Int) := by omega
    have g2 : (k : Int) < (gl.length : Int) := by omega
    clear hin
    go_enter Tryd.func11, Tryd.ntmps11
    go_wp2_with fail
    refine (rwithin_any _ _ _ _).mono ?_
    rintro e w1 ⟨rfl, rfl⟩
    rw [d1, d2]
    cases z
    all_goals
      go_wp2_with fail
      go_ret
      exact ⟨ret_bool HV.out.symm, Below.refl _ _⟩
  · have HV := hideP (show isV gl s = false by
      unfold isV
      rw [hlen]
      by_cases h0 : 0 ≤ s
      · rw [decide_eq_false (show ¬ s ≤ (ds.length : Int) - 1 from fun h1 => hin ⟨h0, h1⟩)]; simp
      · rw [decide_eq_false h0]; rfl)
    have hd : (decide ((0 : Int) ≤ s) && decide (s ≤ (ds.length : Int) - 1)) = false := by
      by_cases h0 : 0 ≤ s
      · rw [decide_eq_false (show ¬ s ≤ (ds.length : Int) - 1 from fun h1 => hin ⟨h0, h1⟩)]; simp
      · rw [decide_eq_false h0]; rfl
    clear hin h
    go_enter Tryd.func11, Tryd.ntmps11
    go_wp2_with fail
    refine (rwithin_any _ _ _ _).mono ?_
    rintro e w1 ⟨rfl, rfl⟩
    rw [hd]
    go_wp2_with fail
    go_ret
    exact ⟨ret_bool HV.out.symm, Below.refl _ _⟩

/-- while it is asked who waits -/
def MayInv (w : World) (ds : List Dl) (gl : List Bool) (k : Nat) (i : Value) (wr : World) : Prop :=
  ∃ n : Nat, n ≤ k ∧ i = .int .i64 n ∧ wtB (ddOf ds) (goneF gl) k n = false ∧ Below w.heap.size w wr
set_option maxHeartbeats 1000000 in
set_option maxRecDepth 100000 in
theorem mmay_any (mb B : Nat) (ds : List Dl) (gl : List Bool) (k : Nat) (w : World) (h : MR w B mb ds gl) (hk : k < ds.length) :
    Calls Tryd.prog 12 #[.pointer (some ⟨mb, 0, none⟩), .int .i64 (k : Int)] w fun e w' => e = .returned (.bool (!wtB (ddOf ds) (goneF gl) k k)) ∧ Below w.heap.size w w' := by
  obtain ⟨A, c, G, cg, h⟩ := h
  go_enter Tryd.func12, Tryd.ntmps12
  go_wp2_with fail
  go_loopw [7] (MayInv w ds gl k) (fun i _ => k - (intOf i).toNat)
  case atStart => exact ⟨0, Nat.zero_le _, rfl, rfl, Below.refl _ _⟩
  case round =>
    obtain ⟨n, hn, rfl, hno, hbw⟩ := hrel
    by_cases hnk : n < k
    · have hX := (h.below hbw).below (Below.refl _ _).drew
      have hgn : n < gl.length := by have := h.len; omega
      have HW := hideP (wtB_succ (ddOf ds) (goneF gl) k n)
      rw [hno, Bool.false_or, ddOf_get (show n < ds.length by omega), ddOf_get hk] at HW
      have hgd : goneF gl n = gl[n] := by simp [goneF, List.getD_eq_getElem?_getD, hgn]
      rw [hgd] at HW
      have c0 := hX.box.cell 0 (v := .slice A ds.length c) rfl
      have c1 := hX.box.cell 1 (v := .slice G gl.length cg) rfl
      obtain ⟨bg, og, eG, hblg, yg⟩ := hX.gone n (.bool gl[n]) (by simp [hgn])
      obtain ⟨b1, o1, eA, hbl1, y1⟩ := hX.deeds n (dlV ds[n]) (by simp [show n < ds.length by omega])
      obtain ⟨b2, o2, eA2, hbl2, y2⟩ := hX.deeds k (dlV ds[k]) (by simp [hk])
      rw [eA] at eA2
      injection eA2 with eA2
      injection eA2 with e1 e2 _
      subst e1; subst e2
      obtain ⟨hos1, hc1⟩ := hX.good _ (List.getElem_mem (show n < ds.length by omega))
      obtain ⟨hos2, hc2⟩ := hX.good _ (List.getElem_mem hk)
      have hlm := hX.box.lt
      have hll := hX.len
      have hmost := h.most
      subst eG
      subst eA
      clear h hX hgd hno
      generalize ds[n] = x at y1 hos1 hc1 HW
      generalize ds[k] = y at y2 hos2 hc2 HW
      obtain ⟨Dx, cx, dx⟩ := x
      obtain ⟨Dy, cy, dy⟩ := y
      simp only [dlV] at y1 hos1 hc1 y2 hos2 hc2 HW
      generalize gl[n] = gi at yg HW
      have HC := hideP (rclash_any Dx Dy cx cy dx dy wr.drew hos1 hos2 hc1 hc2)
      have hbwd := hbw.drew
      have g1 : (0 : Int) ≤ (n : Int) := by omega
      have g2 : (n : Int) < (k : Int) := by omega
      have g3 : (n : Int) < (gl.length : Int) := by omega
      have g4 : (n : Int) < (ds.length : Int) := by omega
      have g5 : (0 : Int) ≤ (k : Int) := by omega
      have g6 : (k : Int) < (ds.length : Int) := by omega
      have k1 : wr.drew.cell? ⟨mb, 0, none⟩ = some (.slice (some ⟨b1, o1, none⟩) ds.length c) ∧ wr.drew.cell? ⟨mb, 1, none⟩ = some (.slice (some ⟨bg, og, none⟩) gl.length cg) ∧ wr.drew.cell? ⟨bg, og + n, none⟩ = some (.bool gi) ∧ wr.drew.cell? ⟨b1, o1 + n, none⟩ = some (.slice Dx dx.length cx) ∧ wr.drew.cell? ⟨b1, o1 + k, none⟩ = some (.slice Dy dy.length cy) := ⟨c0, c1, yg, y1, y2⟩
      have HK := hideP (fun (w8 : World) (hb8 : Below wr.drew.heap.size wr.drew w8) => show w8.cell? ⟨mb, 0, none⟩ = some (.slice (some ⟨b1, o1, none⟩) ds.length c) ∧ w8.cell? ⟨mb, 1, none⟩ = some (.slice (some ⟨bg, og, none⟩) gl.length cg) ∧ w8.cell? ⟨bg, og + n, none⟩ = some (.bool gi) ∧ w8.cell? ⟨b1, o1 + n, none⟩ = some (.slice Dx dx.length cx) ∧ w8.cell? ⟨b1, o1 + k, none⟩ = some (.slice Dy dy.length cy) from
        ⟨(hb8.cell (p := ⟨mb, 0, none⟩) hlm).trans c0, (hb8.cell (p := ⟨mb, 1, none⟩) hlm).trans c1, (hb8.cell (p := ⟨bg, og + n, none⟩) hblg).trans yg, (hb8.cell (p := ⟨b1, o1 + n, none⟩) hbl1).trans y1, (hb8.cell (p := ⟨b1, o1 + k, none⟩) hbl1).trans y2⟩)
      clear hos1 hos2 hc1 hc2 y1 y2 c0 c1 yg hlm hblg hbl1
      generalize clB dx dy = cl at HW HC
      cases gi
      · go_wp2_with fail
        go_region_held3 (fun w' => w'.cell? ⟨mb, 0, none⟩ = some (.slice (some ⟨b1, o1, none⟩) ds.length c) ∧ w'.cell? ⟨mb, 1, none⟩ = some (.slice (some ⟨bg, og, none⟩) gl.length cg) ∧ w'.cell? ⟨bg, og + n, none⟩ = some (.bool false) ∧ w'.cell? ⟨b1, o1 + n, none⟩ = some (.slice Dx dx.length cx) ∧ w'.cell? ⟨b1, o1 + k, none⟩ = some (.slice Dy dy.length cy)) (with_reducible first | exact k1 | exact k2) (first
          | (go_at_call 35; refine HC.out.mono ?_; rintro e2 w8 ⟨rfl, hb8⟩; have k2 := HK.out w8 hb8))
        all_goals
          have hb9 := hbwd.trans (hb8.mono (Nat.le_trans hbw.size (Nat.le_refl _)))
          clear hb8 HC k1 k2 HK
          cases cl
          · have HX := hideP (show wtB (ddOf ds) (goneF gl) k (n + 1) = false from HW.out)
            clear HW
            go_wp2_with fail
            go_roundw
            case rel => exact ⟨n + 1, by omega, by go_num, HX.out, hb9⟩
            case measure => simp [intOf]; omega
          · have HX := hideP (show wtB (ddOf ds) (goneF gl) k k = true by
              cases hkk : wtB (ddOf ds) (goneF gl) k k with
              | true => rfl
              | false =>
                have h1 : wtB (ddOf ds) (goneF gl) k (n + 1) = true := HW.out
                rw [wtB_iff.2 fun i hi => wtB_iff.1 hkk i (by omega)] at h1
                cases h1)
            clear HW
            go_wp2_with fail
            go_ret
            exact ⟨ret_bool (by rw [HX.out]; rfl), hb9⟩
      · have HX := hideP (show wtB (ddOf ds) (goneF gl) k (n + 1) = false from HW.out)
        clear HW HC HK
        obtain ⟨c0, c1, c2, _, _⟩ := k1
        replace c0 : wr.cell? ⟨mb, 0, none⟩ = some (.slice (some ⟨b1, o1, none⟩) ds.length c) := c0
        replace c1 : wr.cell? ⟨mb, 1, none⟩ = some (.slice (some ⟨bg, og, none⟩) gl.length cg) := c1
        replace c2 : wr.cell? ⟨bg, og + n, none⟩ = some (.bool true) := c2
        go_wp2_with fail
        go_quiet (fail)
        go_wp2_with fail
        go_roundw
        case rel => exact ⟨n + 1, by omega, by go_num, HX.out, ⟨hbw.os, hbw.tape, hbw.output, hbw.size, hbw.block⟩⟩
        case measure => simp [intOf]; omega
    · have hnk2 : n = k := by omega
      subst hnk2
      have HX := hideP hno
      clear hno h
      go_wp2_with fail
      go_ret
      exact ⟨ret_bool (by rw [HX.out]; rfl), hbw⟩

/-- who may go on, as the document says -/
def mrdL (ds : List Dl) (gl : List Bool) (n : Nat) : List Nat := (List.range n).filter fun i => !goneF gl i && !wtB (ddOf ds) (goneF gl) i i
theorem mrdL_succ (ds : List Dl) (gl : List Bool) (n : Nat) : mrdL ds gl (n + 1) = mrdL ds gl n ++ if !goneF gl n && !wtB (ddOf ds) (goneF gl) n n then [n] else [] := by
  unfold mrdL
  rw [List.range_succ, List.filter_append]
  congr 1
  cases h : !goneF gl n && !wtB (ddOf ds) (goneF gl) n n <;> simp [h]
theorem mrdL_len (ds : List Dl) (gl : List Bool) (n : Nat) : (mrdL ds gl n).length ≤ n := by
  have := List.length_filter_le (fun i => !goneF gl i && !wtB (ddOf ds) (goneF gl) i i) (List.range n)
  rw [List.length_range] at this
  exact this
def MRdInv (w : World) (ds : List Dl) (gl : List Bool) (v i : Value) (wr : World) : Prop := ∃ (k : Nat) (A : Option Addr) (c : Nat), k ≤ ds.length ∧ i = .int .i64 k ∧ v = .slice A (mrdL ds gl k).length c ∧ OR wr w.heap.size 3 A c (nV (mrdL ds gl k)) ∧ Below w.heap.size w wr
set_option maxHeartbeats 1000000 in
set_option maxRecDepth 100000 in
theorem mready_any (mb B : Nat) (ds : List Dl) (gl : List Bool) (w : World) (h : MR w B mb ds gl) :
    Calls Tryd.prog 16 #[.pointer (some ⟨mb, 0, none⟩)] w (RetN w (mrdL ds gl ds.length)) := by
  have hM := h
  obtain ⟨A, c, G, cg, h⟩ := h
  have c0 := h.box.cell 0 (v := .slice A ds.length c) rfl
  have hlen := h.len
  have hmost := h.most
  clear h
  go_enter Tryd.func16, Tryd.ntmps16
  go_wp2_with fail
  go_loopw [3, 10] (MRdInv w ds gl) (fun _ i _ => ds.length - (intOf i).toNat)
  case atStart => exact ⟨0, none, 0, Nat.zero_le _, rfl, rfl, OR.nil _ _ _, Below.refl _ _⟩
  case round =>
    obtain ⟨k, A1, c1, hk, rfl, rfl, hor, hbw⟩ := hrel
    by_cases hlt : k < ds.length
    · have HT := hideP (mrdL_succ ds gl k)
      have hml := mrdL_len ds gl k
      have hMk := hM.below hbw
      have hiv : isV gl (k : Int) = !goneF gl k := isV_nat (by omega)
      have HIS := hideP (mis_any mb B ds gl (k : Int) wr hMk)
      rw [hiv] at HIS
      have g1 : (k : Int) < (ds.length : Int) := by omega
      clear hM hiv c0
      cases hgk : goneF gl k
      · rw [hgk] at HIS HT
        have HG := hideP hgk
        clear hgk
        go_wp2_with fail
        refine HIS.out.mono ?_
        rintro e w1 ⟨rfl, hb1⟩
        have hM1 := hMk.below hb1
        have ho1 := hor.below hb1
        have hbw1 := hbw.trans (hb1.mono hbw.size)
        have HMY := hideP (mmay_any mb B ds gl k w1 hM1 hlt)
        clear HIS hMk hM1 hor hb1
        go_wp2_with fail
        refine HMY.out.mono ?_
        rintro e w2 ⟨rfl, hb2⟩
        have ho2 := ho1.below hb2
        have hbw2 := hbw1.trans (hb2.mono hbw1.size)
        clear HMY ho1 hb2 hbw1
        cases hwt : wtB (ddOf ds) (goneF gl) k k
        · rw [hwt] at HT
          have HT2 : Hid (mrdL ds gl (k + 1) = mrdL ds gl k ++ [k]) := HT
          obtain ⟨A7, c7, w7, hrun, hor7, hbel, hgr, _⟩ := app_row (P := Tryd.prog) Tryd.underlying32 intInfo rfl w2 w.heap.size 32 A1 c1 _ ho2 [.int .i64 (k : Int)] (by simp [Value.oneCell']) (by rw [nV_length]; simp; omega) (by decide) hbw2.size
          have hb7 := hbel w.heap.size w (Nat.le_refl _) hbw2
          rw [show nV (mrdL ds gl k) ++ [Value.int .i64 (k : Int)] = nV (mrdL ds gl (k + 1)) by rw [HT2.out, nV_append]; rfl, nV_length, nV_length] at hrun
          rw [show nV (mrdL ds gl k) ++ [Value.int .i64 (k : Int)] = nV (mrdL ds gl (k + 1)) by rw [HT2.out, nV_append]; rfl] at hor7
          have HR := hideP hrun
          have HW := hideP hwt
          clear hrun hwt hgr hbel HT HT2 ho2
          go_wp2_with (at_builtin; refine Lib.wpList_append_run _ rfl _ _ _ _ rfl _ _ rfl rfl _ _ HR.out ?_)
          go_roundw
          case rel => exact ⟨k + 1, A7, c7, by omega, by go_num, rfl, hor7, hb7⟩
          case measure => simp [intOf]; omega
        · rw [hwt] at HT
          have HT2 : Hid (mrdL ds gl (k + 1) = mrdL ds gl k ++ []) := HT
          rw [List.append_nil] at HT2
          rw [← HT2.out] at ho2 ⊢
          have HW := hideP hwt
          clear hwt HT HT2
          go_wp2_with fail
          go_roundw
          case rel => exact ⟨k + 1, A1, c1, by omega, by go_num, rfl, ho2, hbw2⟩
          case measure => simp [intOf]; omega
      · rw [hgk] at HIS HT
        have HT2 : Hid (mrdL ds gl (k + 1) = mrdL ds gl k ++ []) := HT
        rw [List.append_nil] at HT2
        rw [← HT2.out] at hor ⊢
        clear HT HT2 hgk
        go_wp2_with fail
        refine HIS.out.mono ?_
        rintro e w1 ⟨rfl, hb1⟩
        have ho1 := hor.below hb1
        have hbw1 := hbw.trans (hb1.mono hbw.size)
        clear HIS hMk hor hb1
        go_wp2_with fail
        go_roundw
        case rel => exact ⟨k + 1, A1, c1, by omega, by go_num, rfl, ho1, hbw1⟩
        case measure => simp [intOf]; omega
    · obtain rfl : k = ds.length := by omega
      clear hM
      go_wp2_with fail
      go_ret
      exact ⟨A1, c1, rfl, hor, hbw⟩
end Go.Proofs.YtgcnbifgnaepnaaDoor
