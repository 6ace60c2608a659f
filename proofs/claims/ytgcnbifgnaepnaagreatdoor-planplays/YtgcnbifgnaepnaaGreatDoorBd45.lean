/-
  roref.Play.
-/
import Derived.Test.YtgcnbifgnaepnaaGreatDoorBd34
import Derived.Test.YtgcnbifgnaepnaaGreatDoorBd43
import Derived.Test.YtgcnbifgnaepnaaGreatDoorBd44
import Derived.Test.YtgcnbifgnaepnaaGreatDoorBd33
import Derived.Deep.RegionHeld3
import Derived.Deep.Cut
import Derived.Deep.CutBlock
import Derived.Deep.DeepCutAuto
set_option linter.unusedVariables false
set_option linter.unusedSimpArgs false
namespace Go.Proofs.YtgcnbifgnaepnaaGreatDoor
open Go.RowKit Go.WideMaps Go.Maps

/-- who is gone, as a list -/
def glO (n : Nat) (o : List Nat) : List Bool := (List.range n).map (inN o)
theorem glO_len (n : Nat) (o : List Nat) : (glO n o).length = n := by simp [glO]
theorem glO_start (n : Nat) : glO n [] = List.replicate n false := by
  unfold glO
  apply List.ext_getElem?
  intro x
  by_cases h : x < n <;> simp [h, List.getElem?_replicate, inN]
theorem glO_snoc {n : Nat} {o : List Nat} {s : Nat} (hs : s < n) : (glO n o).set s true = glO n (o ++ [s]) := by
  apply List.ext_getElem?
  intro x
  rw [List.getElem?_set, glO_len]
  unfold glO
  rw [inN_snoc]
  by_cases hx : x < n
  · by_cases e : s = x
    · subst e; simp [hs]
    · have e' : ¬ x = s := fun h => e h.symm
      rw [if_neg e]; simp [hx, e']
  · by_cases e : s = x
    · omega
    · rw [if_neg e]; simp [hx]
theorem goneF_glO {n : Nat} {o : List Nat} (h : ∀ x ∈ o, x < n) : goneF (glO n o) = inN o := funext fun i => by
  unfold goneF glO
  rw [List.getD_eq_getElem?_getD]
  by_cases hi : i < n
  · simp [hi]
  · rw [List.getElem?_eq_none (by simp; omega)]
    exact (inN_no.2 fun hm => hi (h i hm)).symm
theorem mrdL_eq {ds : List Dl} {o : List Nat} (h : ∀ x ∈ o, x < ds.length) : mrdL ds (glO ds.length o) ds.length = rdyO (ddOf ds) o := by
  unfold mrdL rdyO
  rw [goneF_glO h, ddOf_len]
theorem cell_other {w : World} {a p : Addr} (h : p.block ≠ a.block) (v : Value) : (w.setCell a v).cell? p = w.cell? p := World.cell?_of_block (Below.heap_setCell _ _ _ _ h)
theorem MV.ne_row {w : World} {b n B : Nat} {f : VF} {t : TypeId} {A : Option Addr} {c : Nat} {xs : List Value} (h : MV w b n f) (hr : OR w B t A c xs) : some b ≠ (Value.slice A xs.length c).ownBlock := by
  obtain ⟨D, h1, _⟩ := h.ex; exact fun e => map_not_row h1 hr e.symm
/-- while the document plays -/
structure Ry (w : World) (mb gb gx cd : Nat) (D : Option Addr) (ds : List Dl) (ps : List Int) (f : VF) (n0 k b : Nat) (A2 : Option Addr) (c2 : Nat) (wr : World) : Prop where
  mv : MV wr b (n0 + 16 * k) (plS (ddOf ds) ps f k).1
  vb : ∀ j, valB ((plS (ddOf ds) ps f k).1 j) = true
  ord : OR wr w.heap.size 3 A2 c2 (nV (playN (ddOf ds) ps k))
  exe : OR wr w.heap.size 4 (some ⟨gx, 0, none⟩) ds.length ((plS (ddOf ds) ps f k).2.map Value.bool)
  gone : OR wr w.heap.size 4 (some ⟨gb, 0, none⟩) ds.length ((glO ds.length (playN (ddOf ds) ps k)).map Value.bool)
  box : Box wr mb 61 #[.slice D ds.length cd, .slice (some ⟨gb, 0, none⟩) ds.length ds.length]
  low : w.heap.size ≤ mb
  ne : gx ≠ gb
  bel : Below w.heap.size w wr
section
variable {w : World} {mb gb gx cd : Nat} {D : Option Addr} {ds : List Dl} {ps : List Int} {f : VF} {n0 k b : Nat} {A2 : Option Addr} {c2 : Nat} {wr w' : World}
theorem Ry.below (h : Ry w mb gb gx cd D ds ps f n0 k b A2 c2 wr) (hb : Below wr.heap.size wr w') : Ry w mb gb gx cd D ds ps f n0 k b A2 c2 w' :=
  ⟨h.mv.below hb, h.vb, h.ord.below hb, h.exe.below hb, h.gone.below hb, h.box.below hb, h.low, h.ne, h.bel.trans (hb.mono h.bel.size)⟩
theorem Ry.mr (h : Ry w mb gb gx cd D ds ps f n0 k b A2 c2 wr) (hD : DS w D ds) (hc : ∀ x ∈ ds, chkD x.d = 0) (hl : ds.length ≤ 60) : MR wr w.heap.size mb ds (glO ds.length (playN (ddOf ds) ps k)) :=
  ⟨D, cd, some ⟨gb, 0, none⟩, ds.length, by rw [glO_len]; exact h.box, h.low, (hD.below h.bel).vs, h.gone.vs, glO_len _ _, hl, fun x hx => ⟨(hD.below h.bel).os x hx, hc x hx⟩⟩
/-- one step -/
theorem Ry.step (h : Ry w mb gb gx cd D ds ps f n0 k b A2 c2 wr) (hk : k < ds.length) (h60 : ds.length ≤ 60) (hchk : ∀ d ∈ ddOf ds, chkD d = 0) {s : Nat} (hs : s = nextO (ddOf ds) ps (playN (ddOf ds) ps k))
    {b' : Nat} {w6 : World} (hb : Below wr.heap.size wr w6) (hm : MV w6 b' (n0 + 16 * k + 16) (doneV (plS (ddOf ds) ps f k).1 ((ddOf ds).getD s [])).1) :
    (∃ u, w6.cell? ⟨gx, s, none⟩ = some u) ∧ w6.frozen? ⟨gx, s, none⟩ = false ∧
    ∀ W, W = w6.setCell ⟨gx, s, none⟩ (.bool (doneV (plS (ddOf ds) ps f k).1 ((ddOf ds).getD s [])).2) →
      (∃ u, W.cell? ⟨gb, s, none⟩ = some u) ∧ W.frozen? ⟨gb, s, none⟩ = false ∧ W.cell? ⟨mb, 1, none⟩ = some (.slice (some ⟨gb, 0, none⟩) ds.length ds.length) ∧
      ∀ W', Below (W.setCell ⟨gb, s, none⟩ (.bool true)).heap.size (W.setCell ⟨gb, s, none⟩ (.bool true)) W' →
        ∃ A9 c9 w9, (Builtin.append_ #[24, 24] 24 #[.slice A2 k c2, .slice (some ⟨W'.heap.size, 0, none⟩) 1 1]).run Tryz.prog (W'.alloc (.cells #[.int .i64 (s : Int)] 3)) = .ok (.slice A9 (k + 1) c9) w9 ∧
          Ry w mb gb gx cd D ds ps f n0 (k + 1) b' A9 c9 w9 := by
  subst hs
  have hp := pl_all (ddOf ds) ps k (by rw [ddOf_len]; omega)
  have hmem := next_mem (ps := ps) (hp.room (by rw [ddOf_len]; exact hk))
  obtain ⟨h1, h2, h3⟩ := rdyO_mem.1 hmem
  rw [ddOf_len] at h1
  have h6 := h.below hb
  generalize hsn : nextO (ddOf ds) ps (playN (ddOf ds) ps k) = s at h1 h2 h3 hm hmem ⊢
  have hlx : s < ((plS (ddOf ds) ps f k).2.map Value.bool).length := by rw [List.length_map, plS_len, ddOf_len]; exact h1
  have hlg : s < ((glO ds.length (playN (ddOf ds) ps k)).map Value.bool).length := by rw [List.length_map, glO_len]; exact h1
  have at_ : ∀ {W : World} {g : Nat} {xs : List Value}, OR W w.heap.size 4 (some ⟨g, 0, none⟩) ds.length xs → s < xs.length → ∃ u, W.cell? ⟨g, s, none⟩ = some u := fun hor hlt => by
    obtain ⟨b, o, e, _, hc⟩ := hor.vs s _ (List.getElem?_eq_getElem hlt)
    injection e with e
    injection e with e1 e2 _
    subst e1; subst e2
    rw [Nat.zero_add] at hc
    exact ⟨_, hc⟩
  refine ⟨at_ h6.exe hlx, h6.exe.frozen_ s, fun W hW => ?_⟩
  generalize hr : doneV (plS (ddOf ds) ps f k).1 ((ddOf ds).getD s []) = r at hm hW
  have hg := grown_setCell w6 ⟨gx, s, none⟩ (.bool r.2)
  rw [← hW] at hg
  have htx := h6.exe.ty_
  have hgx : w.heap.size ≤ gx := (World.ownsRow.lt h6.exe gx rfl).1
  have hgb : w.heap.size ≤ gb := (World.ownsRow.lt h6.gone gb rfl).1
  have hexW : OR W w.heap.size 4 (some ⟨gx, 0, none⟩) ds.length (((plS (ddOf ds) ps f k).2.map Value.bool).set s (.bool r.2)) := by rw [hW]; exact h6.exe.set_ hlx _
  have hgoW : OR W w.heap.size 4 (some ⟨gb, 0, none⟩) ds.length ((glO ds.length (playN (ddOf ds) ps k)).map Value.bool) := World.ownsRow.kept h6.gone hg (.inr fun e => h.ne (by simpa [Value.ownBlock] using e.symm))
  have horW : OR W w.heap.size 3 A2 c2 (nV (playN (ddOf ds) ps k)) := World.ownsRow.kept h6.ord hg (own_ne h6.ord htx (by decide))
  have hmW : MV W b' (n0 + 16 * k + 16) r.1 := hm.kept hg (fun e => hm.ne_row h6.exe (by simpa [Value.ownBlock] using e))
  have hbxW : Box W mb 61 #[.slice D ds.length cd, .slice (some ⟨gb, 0, none⟩) ds.length ds.length] := h6.box.grown hg fun e => by
    injection e with e
    have := h6.box.ty
    rw [e] at this
    exact absurd (this.inj htx) (by decide)
  have hbW : Below w.heap.size w W := h6.bel.grown hg h6.bel.size (fun b hb => by injection hb with hb; subst hb; exact hgx)
  refine ⟨at_ hgoW hlg, hgoW.frozen_ s, hbxW.cell 1 rfl, fun W' hb' => ?_⟩
  have hg2 := grown_setCell W ⟨gb, s, none⟩ (.bool true)
  have htg := hgoW.ty_
  have hex2 : OR (W.setCell ⟨gb, s, none⟩ (.bool true)) w.heap.size 4 (some ⟨gx, 0, none⟩) ds.length _ := World.ownsRow.kept hexW hg2 (.inr fun e => h.ne (by simpa [Value.ownBlock] using e))
  have hgo2 := hgoW.set_ hlg (.bool true)
  rw [← List.map_set, glO_snoc h1] at hgo2
  have hor2 : OR (W.setCell ⟨gb, s, none⟩ (.bool true)) w.heap.size 3 A2 c2 (nV (playN (ddOf ds) ps k)) := World.ownsRow.kept horW hg2 (own_ne horW htg (by decide))
  have hm2 : MV (W.setCell ⟨gb, s, none⟩ (.bool true)) b' (n0 + 16 * k + 16) r.1 := hmW.kept hg2 (fun e => hmW.ne_row hgoW (by simpa [Value.ownBlock] using e))
  have hbx2 := hbxW.grown hg2 fun e => by
    injection e with e
    have := hbxW.ty
    rw [e] at this
    exact absurd (this.inj htg) (by decide)
  have hb2 : Below w.heap.size w (W.setCell ⟨gb, s, none⟩ (.bool true)) := hbW.grown hg2 hbW.size (fun b hb => by injection hb with hb; subst hb; exact hgb)
  have hor3 := hor2.below hb'
  have hb3 := hb2.trans (hb'.mono hb2.size)
  obtain ⟨A9, c9, w9, hrun, hor9, hbl9, hgr, _⟩ := app_row (P := Tryz.prog) Tryz.underlying24 intInfo rfl W' w.heap.size 24 A2 c2 _ hor3 [.int .i64 (s : Int)] (by simp [Value.oneCell']) (by rw [nV_length, playN_len]; simp only [List.length_singleton]; omega) (by decide) hb3.size
  have hX : nV (playN (ddOf ds) ps k) ++ [Value.int .i64 (s : Int)] = nV (playN (ddOf ds) ps (k + 1)) := by
    simp only [playN]; rw [nV_append, hsn]; rfl
  rw [hX] at hrun hor9
  rw [nV_length, nV_length, playN_len, playN_len] at hrun
  have hal := (Below.refl W'.heap.size W').alloc (Nat.le_refl _) (.cells #[.int .i64 (s : Int)] 3)
  have hor3a := hor3.below hal
  have hex3a := (hex2.below hb').below hal
  have hgo3a := (hgo2.below hb').below hal
  have hm3a := (hm2.below hb').below hal
  have hbx3a := (hbx2.below hb').below hal
  refine ⟨A9, c9, w9, hrun, ?_⟩
  have e1 : (plS (ddOf ds) ps f (k + 1)) = (r.1, (plS (ddOf ds) ps f k).2.set s r.2) := by simp only [plS]; rw [hsn, hr]
  have hm9 : MV w9 b' (n0 + 16 * (k + 1)) r.1 := (hm3a.kept hgr (hm3a.ne_row hor3a)).mono (by omega)
  have hex9 := World.ownsRow.kept hex3a hgr (rows_ne hex3a hor3a (by decide))
  have hgo9 := World.ownsRow.kept hgo3a hgr (rows_ne hgo3a hor3a (by decide))
  have hbx9 := hbx3a.grown hgr fun e => by
    have := own_ty hor3a e.symm
    exact absurd (this.inj hbx3a.ty) (by decide)
  have hl : s < (ddOf ds).length := by rw [ddOf_len]; exact h1
  have hmd : (ddOf ds).getD s [] ∈ ddOf ds := by
    rw [List.getD_eq_getElem?_getD, List.getElem?_eq_getElem hl]
    exact List.getElem_mem hl
  have hvb9 : ∀ j, valB (r.1 j) = true := by rw [← hr]; exact doneV_vb (fun o ho => (chkD_zero.1 (hchk _ hmd)).2.2 o ho) h.vb
  refine ⟨by rw [e1]; exact hm9, by rw [e1]; exact hvb9, hor9, by rw [e1, List.map_set]; exact hex9, ?_, hbx9, h.low, h.ne, hbl9 w.heap.size w (Nat.le_refl _) hb3⟩
  rw [show playN (ddOf ds) ps (k + 1) = playN (ddOf ds) ps k ++ [s] by simp only [playN]; rw [hsn]]
  exact hgo9
end
def RyInv (w : World) (mb gb gx cd : Nat) (D : Option Addr) (ds : List Dl) (ps : List Int) (f : VF) (n0 : Nat) (v vo : Value) (wr : World) : Prop :=
  ∃ (k b : Nat) (A2 : Option Addr) (c2 : Nat), k ≤ ds.length ∧ v = .map (some b) ∧ vo = .slice A2 k c2 ∧ Ry w mb gb gx cd D ds ps f n0 k b A2 c2 wr
/-- what the document's Play hands back -/
def RetRPlay (w : World) (ds : List Dl) (ps : List Int) (f : VF) (n0 : Nat) (e : Ending) (w' : World) : Prop :=
  ∃ b gx A2 c2, e = .returned (.tuple #[.map (some b), .slice (some ⟨gx, 0, none⟩) ds.length ds.length, .slice A2 ds.length c2]) ∧ MV w' b (n0 + 1000) (plS (ddOf ds) ps f ds.length).1 ∧
    VS w' (some ⟨gx, 0, none⟩) ((plS (ddOf ds) ps f ds.length).2.map Value.bool) ∧ VS w' A2 (nV (playN (ddOf ds) ps ds.length)) ∧ Below w.heap.size w w'

set_option maxHeartbeats 4000000 in
set_option maxRecDepth 100000 in
theorem rplay_any (b n0 : Nat) (f : VF) (D P : Option Addr) (cd cp : Nat) (ds : List Dl) (ps : List Int) (w : World) (hM : MV w b n0 f) (hn : n0 ≤ 400000000) (hf : ∀ k, valB (f k) = true) (hD : DS w D ds) (hc : chkP (ddOf ds) = 0) (hP : IS w P ps) (hpl : ps.length ≤ 9223372036854775807) :
    Calls Tryz.prog 9 #[.map (some b), .slice D ds.length cd, .slice P ps.length cp] w (RetRPlay w ds ps f n0) := by
  obtain ⟨h60, hchk⟩ := chkP_zero.1 hc
  rw [ddOf_len] at h60
  obtain ⟨i0, hi0, hz0, hz1, hz2⟩ := info_parts boolInfo
  obtain ⟨w1, hmk1, hown1, hg1⟩ := run_make_full (P := Tryz.prog) w w.heap.size 25 4 i0 _ 1 Tryz.underlying25 hi0 hz0 hz1 .i64 .i64 ds.length (by rw [hz2]; omega) (by unfold maxLen; omega) (Nat.le_refl _)
  rw [made_bools] at hown1
  have hor1 : OR w1 w.heap.size 4 (some ⟨w.heap.size, 0, none⟩) ds.length ((List.replicate ds.length false).map Value.bool) := by unfold OR; simpa using hown1
  have hb1 : Below w.heap.size w w1 := ⟨hg1.os, hg1.tape, hg1.output, hg1.size, fun k hk => hg1.block k hk (by simp)⟩
  have hlt1 : w.heap.size < w1.heap.size := (World.ownsRow.lt hor1 _ rfl).2
  have hb2 := (Below.refl w1.heap.size w1).alloc (Nat.le_refl _) (.cells #[.slice D ds.length cd, .slice (some ⟨w.heap.size, 0, none⟩) ds.length ds.length] 61)
  have hbx := Box.new w1 61 #[.slice D ds.length cd, .slice (some ⟨w.heap.size, 0, none⟩) ds.length ds.length]
  obtain ⟨w3, hmk3, hown3, hg3⟩ := run_make_full (P := Tryz.prog) (w1.alloc (.cells #[.slice D ds.length cd, .slice (some ⟨w.heap.size, 0, none⟩) ds.length ds.length] 61)) (w1.heap.size + 1) 25 4 i0 _ 1 Tryz.underlying25 hi0 hz0 hz1 .i64 .i64 ds.length (by rw [hz2]; omega) (by unfold maxLen; omega) (by simp)
  rw [made_bools] at hown3
  simp only [World.size_alloc] at hmk3 hown3
  have hor3 : OR w3 (w1.heap.size + 1) 4 (some ⟨w1.heap.size + 1, 0, none⟩) ds.length ((List.replicate ds.length false).map Value.bool) := by unfold OR; simpa using hown3
  have hb3 : Below (w1.alloc (.cells #[.slice D ds.length cd, .slice (some ⟨w.heap.size, 0, none⟩) ds.length ds.length] 61)).heap.size (w1.alloc (.cells #[.slice D ds.length cd, .slice (some ⟨w.heap.size, 0, none⟩) ds.length ds.length] 61)) w3 := ⟨hg3.os, hg3.tape, hg3.output, hg3.size, fun k hk => hg3.block k hk (by simp)⟩
  have hb23 := hb2.trans (hb3.mono hb2.size)
  have hb123 := hb1.trans (hb23.mono hb1.size)
  have HI := hideP (show RyInv w w1.heap.size w.heap.size (w1.heap.size + 1) cd D ds ps f n0 (.map (some b)) (.slice none 0 0) w3 from
    ⟨0, b, none, 0, Nat.zero_le _, rfl, rfl, hM.below hb123, hf, OR.nil _ _ _, by simp only [plS, ddOf_len]; exact hor3.mono (by omega), by simp only [playN, glO_start]; exact hor1.below hb23, hbx.below hb3, by omega, by omega, hb123⟩)
  have HCK := hideP hchk
  clear hown1 hg1 hor1 hb1 hown3 hg3 hor3 hb2 hb3 hb23 hb123 hbx hi0 hz0 hz1 hz2 hM hf hc hchk
  go_enter Tryz.func9, Tryz.ntmps9
  go_wp2_with fail
  obtain ⟨gb, hgb⟩ : ∃ g, g = w.heap.size := ⟨_, rfl⟩
  rw [show RyInv w w1.heap.size w.heap.size = RyInv w w1.heap.size gb by rw [hgb]] at HI
  rw [← hgb]
  generalize w1.heap.size + 1 = gx at HI ⊢
  generalize w1.heap.size = mb at HI ⊢
  clear hmk1 hmk3 hlt1 hgb
  go_loopw [0, 11] (RyInv w mb gb gx cd D ds ps f n0) (fun _ vo _ => ds.length - slLen vo)
  case atStart => exact HI.out
  case round =>
    clear HI
    obtain ⟨k, b, A2, c2, hk, rfl, rfl, hry⟩ := hrel
    by_cases hkl : k < ds.length
    · have hpl' := pl_all (ddOf ds) ps k (by rw [ddOf_len]; omega)
      have hroom := hpl'.room (by rw [ddOf_len]; exact hkl)
      have hr60 := rdyO_len (ddOf ds) (playN (ddOf ds) ps k)
      rw [ddOf_len] at hr60
      have hch := chV_lt ps k hroom
      obtain ⟨s, hs⟩ : ∃ s, s = nextO (ddOf ds) ps (playN (ddOf ds) ps k) := ⟨_, rfl⟩
      have hnx : (rdyO (ddOf ds) (playN (ddOf ds) ps k))[chV ps k (rdyO (ddOf ds) (playN (ddOf ds) ps k)).length]? = some s := by
        rw [hs]
        unfold nextO
        rw [playN_len, List.getD_eq_getElem?_getD, List.getElem?_eq_getElem hch]
        rfl
      have hsl : s < ds.length := by
        have := (rdyO_mem.1 (next_mem (ps := ps) hroom)).1
        rw [← hs, ddOf_len] at this
        exact this
      have HRD := hideP (mready_any mb w.heap.size ds _ wr (hry.mr hD (fun x hx => HCK.out _ (List.mem_map.2 ⟨x, hx, rfl⟩)) h60))
      rw [mrdL_eq (fun x hx => by have := hpl'.lt x hx; rwa [ddOf_len] at this)] at HRD
      have g0 : (k : Int) < (ds.length : Int) := by omega
      clear hpl'
      go_wp2_with fail
      refine HRD.out.mono ?_
      rintro e w4 ⟨A3, c3, rfl, hor3, hb4⟩
      have hry4 := hry.below hb4
      have hP4 := hP.below hry4.bel
      obtain ⟨b3, o3, rfl, hbl3, q3⟩ := hor3.vs _ _ (nV_get' hnx)
      obtain ⟨⟨bd, od, rfl, hbld, qd⟩, hosd⟩ := (hD.below hry4.bel).at_ hsl
      have hck := HCK.out _ (show ds[s].d ∈ ddOf ds from List.mem_map.2 ⟨_, List.getElem_mem hsl, rfl⟩)
      have hgd : (ddOf ds).getD s [] = ds[s].d := ddOf_get hsl
      have HST := hideP (fun (b' : Nat) (w6 : World) => hry4.step hkl h60 HCK.out hs (b' := b') (w6 := w6))
      rw [hgd] at HST
      have hnx2 : s < ds.length := hsl
      have HRUN := hideP (fun (w' : World) (hb : Below w4.heap.size w4 w') => rrunR_done b (n0 + 16 * k) (plS (ddOf ds) ps f k).1 ds[s].D ds[s].c ds[s].d w' (hry4.mv.below hb) (by omega) hry4.vb (hosd.go hb) hck)
      have HCH := hideP (show chV ps k (rdyO (ddOf ds) (playN (ddOf ds) ps k)).length = chV ps k (rdyO (ddOf ds) (playN (ddOf ds) ps k)).length from rfl)
      have HRY := hideP hry4
      have hne1 : b3 ≠ gx := fun e => by
        subst e
        have h1 : Ty w4 b3 3 := own_ty hor3 rfl
        exact absurd (h1.inj hry4.exe.ty_) (by decide)
      have hne2 : b3 ≠ gb := fun e => by
        subst e
        have h1 : Ty w4 b3 3 := own_ty hor3 rfl
        exact absurd (h1.inj hry4.gone.ty_) (by decide)
      have hgx : w.heap.size ≤ gx := (World.ownsRow.lt hry4.exe gx rfl).1
      clear hnx hgd hry hry4 hosd hck hs HRD hor3 hb4
      generalize hrl : (rdyO (ddOf ds) (playN (ddOf ds) ps k)).length = rl at hroom hr60 hch HCH q3
      clear hrl
      generalize hchv : chV ps k rl = ch at hch q3 HCH
      have HV := hideP hchv
      clear hchv HCH
      generalize ds[s] = x at qd HST HRUN
      obtain ⟨Dx, cx, dx⟩ := x
      simp only [dlV] at qd HST HRUN
      have g1 : (0 : Int) < (rl : Int) := by omega
      have g2 : (0 : Int) ≤ (ch : Int) := by omega
      have g3 : (ch : Int) < (rl : Int) := by omega
      have g4 : (0 : Int) ≤ (s : Int) := by omega
      have g5 : (s : Int) < (ds.length : Int) := by omega
      go_upto_if 34 with fail
      go_cut [13] (fun v wc => v = .int .i64 (ch : Int) ∧ w4 = wc)
      case first =>
        clear HST HRUN HRY q3 qd
        by_cases hst : k < ps.length
        · obtain ⟨bp, op, rfl, hblp, qp⟩ := hP4 k _ (List.getElem?_eq_getElem hst)
          have hcz : wi ps[k] rl = ch := by
            have := HV.out
            unfold chV at this
            rw [if_pos hst, List.getD_eq_getElem?_getD, List.getElem?_eq_getElem hst] at this
            exact this
          have HW := hideP (show wrap64 ((IntKind.u64.wrap ps[k]).tmod (rl : Int)) = (ch : Int) by rw [wi_eq _ _ (by omega) (by omega), hcz])
          clear hcz
          generalize ps[k] = z at qp HW
          have g6 : (0 : Int) ≤ (k : Int) := by omega
          have g7 : (k : Int) < (ps.length : Int) := by omega
          have g8 : (1 : Int) ≤ (rl : Int) := by omega
          go_wp2_with fail
          go_meet
          case rel => exact ⟨by rw [← HW.out], rfl⟩
        · have hcz : ch = 0 := by
            have := HV.out
            unfold chV at this
            rw [if_neg hst] at this
            exact this.symm
          have HZ := hideP hcz
          clear hcz
          have g6 : ¬ (k : Int) < (ps.length : Int) := by omega
          go_wp2_with fail
          go_meet
          case rel => exact ⟨by rw [HZ.out]; rfl, rfl⟩
      case rest =>
        obtain ⟨rfl, rfl⟩ := hcut
        have hbdl : bd < w.heap.size := by
          obtain ⟨b1, o1, e1, h1, _⟩ := hD.vs s _ (by simp [hsl] : (ds.map dlV)[s]? = some (dlV ds[s]))
          injection e1 with e1
          injection e1 with e1 _ _
          subst e1
          exact h1
        have hne3 : bd ≠ gx := by omega
        have hbd4 : Below w4.heap.size w4 w4.drew := (Below.refl _ _).drew
        have HRUN' := hideP (HRUN.out _ hbd4)
        have k1 : w4.drew.cell? ⟨b3, o3 + ch, none⟩ = some (.int .i64 (s : Int)) ∧ w4.drew.cell? ⟨bd, od + s, none⟩ = some (.slice Dx dx.length cx) := ⟨q3, qd⟩
        have hl3 : b3 < w4.drew.heap.size := hbl3
        have hld : bd < w4.drew.heap.size := hbld
        clear HV hP4 HRUN HRY q3 qd hD hP
        generalize hrr : doneV (plS (ddOf ds) ps f k).1 dx = rr at HST HRUN'
        clear hrr
        go_wp2_with fail
        go_region_held3 (fun w' => w'.cell? ⟨b3, o3 + ch, none⟩ = some (.int .i64 (s : Int)) ∧ w'.cell? ⟨bd, od + s, none⟩ = some (.slice Dx dx.length cx)) (with_reducible first | exact k1 | exact k2 | exact k3) (first
          | (go_at_call 25
             refine HRUN'.out.mono ?_
             rintro e2 w8 ⟨b', rfl, hm8, hb8⟩
             obtain ⟨⟨u, hcu⟩, hfz, hnx⟩ := HST.out b' w8 (hbd4.trans hb8) hm8
             have HNX := hideP hnx
             have k2 := And.intro ((hb8.cell (p := ⟨b3, o3 + ch, none⟩) hl3).trans k1.1) ((hb8.cell (p := ⟨bd, od + s, none⟩) hld).trans k1.2)
             have k3 := And.intro ((cell_other (w := w8) (a := ⟨gx, s, none⟩) (p := ⟨b3, o3 + ch, none⟩) hne1 (.bool rr.2)).trans k2.1) ((cell_other (w := w8) (a := ⟨gx, s, none⟩) (p := ⟨bd, od + s, none⟩) hne3 (.bool rr.2)).trans k2.2)
             clear hnx hm8))
        all_goals
          obtain ⟨⟨u2, hcu2⟩, hfz2, hcm, hnx2⟩ := HNX.out _ rfl
          have q4 := k3.1
          have HNX2 := hideP hnx2
          clear HNX HST HRUN' k1 k2 k3 hcu hfz hnx2 hb8
          generalize w8.setCell ⟨gx, s, none⟩ (.bool rr.2) = W at hcu2 hfz2 hcm q4 HNX2 ⊢
          have q5 : (W.setCell ⟨gb, s, none⟩ (.bool true)).cell? ⟨b3, o3 + ch, none⟩ = some (.int .i64 (s : Int)) := (cell_other (w := W) (a := ⟨gb, s, none⟩) (p := ⟨b3, o3 + ch, none⟩) hne2 (.bool true)).trans q4
          obtain ⟨A9, c9, w9, hrun, hry9⟩ := HNX2.out _ (Below.refl _ _).drew
          have HR := hideP hrun
          have HRY9 := hideP hry9
          clear HNX2 hrun hry9
          go_wp2_with fail
          go_region
          all_goals
            have q6 : (W.setCell ⟨gb, s, none⟩ (.bool true)).drew.cell? ⟨b3, o3 + ch, none⟩ = some (.int .i64 (s : Int)) := q5
            clear q4 q5 hcu2 hfz2 hcm
            generalize (W.setCell ⟨gb, s, none⟩ (.bool true)).drew = W2 at HR q6 ⊢
            go_wp2_with (at_builtin; refine Lib.wpList_append_run _ rfl _ _ _ _ rfl _ _ rfl rfl _ _ HR.out ?_)
            go_roundw
            case rel => exact ⟨k + 1, b', A9, c9, by omega, rfl, rfl, HRY9.out⟩
            case measure => simp [slLen] <;> omega
    · have hke : k = ds.length := by omega
      subst hke
      have HR := hideP (show RetRPlay w ds ps f n0 (.returned (.tuple #[.map (some b), .slice (some ⟨gx, 0, none⟩) ds.length ds.length, .slice A2 ds.length c2])) wr from
        ⟨b, gx, A2, c2, rfl, hry.mv.mono (by omega), hry.exe.vs, hry.ord.vs, hry.bel⟩)
      clear hry
      go_wp2_with fail
      go_ret3
      exact HR.out
end Go.Proofs.YtgcnbifgnaepnaaGreatDoor
