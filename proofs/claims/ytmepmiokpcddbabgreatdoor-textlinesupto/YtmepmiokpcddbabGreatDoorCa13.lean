/-
  text.bodyText and text.Entry: what they write.
  An entry's box is written (no body of the program in it).
-/
import Derived.Test.YtmepmiokpcddbabGreatDoorCa12
import Derived.Test.YtmepmiokpcddbabGreatDoorCa8
import Derived.Test.YtmepmiokpcddbabGreatDoorCa11
import Derived.Test.YtmepmiokpcddbabGreatDoorCa5
import Derived.Test.YtmepmiokpcddbabGreatDoorCa7
set_option linter.unusedVariables false
set_option linter.unusedSimpArgs false
namespace Go.Proofs.YtmepmiokpcddbabGreatDoor
open Go.RowKit
open Go.Lib hiding intOf

/-- what bodyText answers -/
def boA (x : Ent) : ByteArray := if chkE x = 0 then bs (bodyT x) else ByteArray.empty
/-- what Entry answers -/
def enA (x : Ent) : ByteArray := if chkE x = 0 then bs (entT x) else ByteArray.empty
set_option maxHeartbeats 1000000 in
set_option maxRecDepth 100000 in
theorem body_any (x : Em) (w : World) (hx : ES w x) (hg : Gl w) :
    Calls Tryz.prog 83 #[emV x] w fun e w' => e = .returned (.tuple #[.string (boA (entOf x)), .int .i64 (chkE (entOf x))]) ∧ Below w.heap.size w w' := by
  have b0 := (Below.refl w.heap.size w).alloc (Nat.le_refl _) (.cells (emC x) 45)
  have x0 := Box.new w 45 (emC x)
  have hx1 := hx.below b0
  have hg1 := hg.below b0
  obtain ⟨D, c, d, isM, ⟨A, ca, cs, O, co, os⟩⟩ := x
  unfold emV
  unfold emC at b0 x0 hx1 hg1 ⊢
  simp only at b0 x0 hx1 hg1 ⊢
  have c0 := x0.cell 0 (v := .slice D d.length c) rfl
  have c1 := x0.cell 1 (v := .bool isM) rfl
  have c2 := x0.cell 2 (v := .slice A cs.length ca) rfl
  have c3 := x0.cell 3 (v := .slice O os.length co) rfl
  have HD := hideP (deedT_any D c d _ hx1.ops hx1.bd hg1)
  have HM := hideP (mapT_any _ _ hx1.map hg1)
  simp only at HM
  clear hx hx1 hg hg1 x0
  cases isM
  · have HV := hideP (show boA (entOf ⟨D, c, d, false, ⟨A, ca, cs, O, co, os⟩⟩) = ddA d from rfl)
    have HK := hideP (show chkE (entOf ⟨D, c, d, false, ⟨A, ca, cs, O, co, os⟩⟩) = chkD d from rfl)
    go_enter Tryz.func83, Tryz.ntmps83
    go_wp2_with fail
    refine HD.out.mono ?_
    clear HD HM
    generalize w.alloc _ = w1 at b0 ⊢
    rintro e w2 ⟨rfl, hb2⟩
    have b2 := b0.trans (hb2.mono b0.size)
    go_wp2_with fail
    go_ret2
    exact ⟨by rw [HV.out, HK.out]; rfl, b2⟩
  · have HK := hideP (show chkE (entOf ⟨D, c, d, true, ⟨A, ca, cs, O, co, os⟩⟩) = chkM cs os from rfl)
    go_enter Tryz.func83, Tryz.ntmps83
    go_wp2_with fail
    refine HM.out.mono ?_
    clear HD HM
    generalize w.alloc _ = w1 at b0 ⊢
    rintro e w2 ⟨rfl, hb2⟩
    have b2 := b0.trans (hb2.mono b0.size)
    by_cases hc : chkM cs os = 0
    · have HV := hideP (show boA (entOf ⟨D, c, d, true, ⟨A, ca, cs, O, co, os⟩⟩) = bs (mapW ++ tM cs os) by unfold boA; rw [if_pos (by rw [HK.out]; exact hc)]; rfl)
      have hva : mpA cs os = bs (tM cs os) := by unfold mpA; rw [if_pos hc]
      have hsz : (bs (tM cs os)).size ≤ 256 := by
        have := body_len (x := ⟨true, [], cs, os⟩) hc
        simp only [bodyT, if_true, List.length_append] at this
        rw [bs_size]; omega
      have HT := hideP (show (bs (tM cs os)).data.toList = tM cs os from rfl)
      rw [hva, hc]
      have HC := hideP hc
      clear hc hva
      generalize bs (tM cs os) = tx at hsz HT ⊢
      go_wp2_with fail
      all_goals
        first
        | (exfalso; rename_i hbig; simp at hbig; omega)
        | (go_ret2
           refine ⟨?_, b2⟩
           rw [HV.out, HK.out, HC.out]
           have e : bs (mapW ++ tM cs os) = ⟨#[109, 97, 112, 32]⟩ ++ tx := ba_ext (by simp [bs, mapW, HT.out])
           rw [e]
           rfl)
    · have HV := hideP (show boA (entOf ⟨D, c, d, true, ⟨A, ca, cs, O, co, os⟩⟩) = ByteArray.empty by unfold boA; rw [if_neg (by rw [HK.out]; exact hc)])
      have d1 : (chkM cs os != 0) = true := by simpa using hc
      clear hc
      generalize hq : chkM cs os = q at d1 HK ⊢
      clear hq
      go_wp2_with fail
      go_ret2
      exact ⟨by rw [HV.out, HK.out]; rfl, b2⟩
set_option maxHeartbeats 1000000 in
set_option maxRecDepth 100000 in
theorem entry_any (x : Em) (w : World) (hx : ES w x) (hg : Gl w) :
    Calls Tryz.prog 18 #[emV x] w fun e w' => e = .returned (.tuple #[.string (enA (entOf x)), .int .i64 (chkE (entOf x))]) ∧ Below w.heap.size w w' := by
  have b0 := (Below.refl w.heap.size w).alloc (Nat.le_refl _) (.cells (emC x) 45)
  have x0 := Box.new w 45 (emC x)
  have HQ := hideP (body_any x _ (hx.below b0) (hg.below b0))
  have hg1 := hg.below b0
  generalize hent : entOf x = en at HQ ⊢
  clear hent
  obtain ⟨D, c, d, isM, ⟨A, ca, cs, O, co, os⟩⟩ := x
  unfold emV at HQ ⊢
  unfold emC at b0 x0 HQ hg1 ⊢
  simp only at b0 x0 HQ hg1 ⊢
  have c0 := x0.cell 0 (v := .slice D d.length c) rfl
  have c1 := x0.cell 1 (v := .bool isM) rfl
  have c2 := x0.cell 2 (v := .slice A cs.length ca) rfl
  have c3 := x0.cell 3 (v := .slice O os.length co) rfl
  go_enter Tryz.func18, Tryz.ntmps18
  go_wp2_with fail
  refine HQ.out.mono ?_
  clear HQ x0 hx hg c0 c1 c2 c3
  generalize w.alloc _ = w1 at b0 hg1 ⊢
  rintro e w2 ⟨rfl, hb2⟩
  have b2 := b0.trans (hb2.mono b0.size)
  have hg2 := hg1.below hb2
  by_cases hc : chkE en = 0
  · have HV := hideP (show enA en = bs (entT en) by unfold enA; rw [if_pos hc])
    have hvb : boA en = bs (bodyT en) := by unfold boA; rw [if_pos hc]
    have hsz : (bs (bodyT en)).size ≤ 256 := body_len hc
    have hsm := sm_lt (bodyT en)
    have HS := hideP (sum_any (bs (bodyT en)) w2 (by omega))
    have HI := hideP (itoa_any (sm (bodyT en) : Int) (by omega) (by omega) w2 hg2)
    have hsi := itoa_size (n := (sm (bodyT en) : Int)) (by omega) (by omega)
    have HE := hideP (show (bs (entT en)).data.toList = (bs (bodyT en)).data.toList ++ 32 :: ((bs (itoa (sm (bodyT en) : Int))).data.toList ++ [10]) from rfl)
    rw [bs_data] at HS
    rw [hvb, hc]
    have HC := hideP hc
    clear hc hvb hb2 hsm
    generalize bs (itoa (sm (bodyT en) : Int)) = ti at hsi HI HE ⊢
    generalize (sm (bodyT en) : Int) = zz at HS HI
    generalize bs (bodyT en) = tb at hsz HS HE ⊢
    go_wp2_with (first
      | (go_at_call 21; refine HS.out.mono ?_; rintro e w3 ⟨rfl, rfl⟩)
      | (go_at_call 67; refine HI.out.mono ?_; rintro e w3 ⟨rfl, hb3⟩))
    all_goals
      first
      | (exfalso; rename_i hbig; simp at hbig; omega)
      | (go_ret2
         refine ⟨?_, b2.trans (hb3.mono b2.size)⟩
         rw [HV.out, HC.out]
         have e : bs (entT en) = tb ++ ⟨#[32]⟩ ++ ti ++ ⟨#[10]⟩ := ba_ext (by rw [HE.out]; simp)
         rw [e]
         rfl)
  · have HV := hideP (show enA en = ByteArray.empty by unfold enA; rw [if_neg hc])
    have d1 : (chkE en != 0) = true := by simpa using hc
    clear hc
    generalize boA en = tb at ⊢
    generalize hq : chkE en = q at d1 ⊢
    have HQ2 := hideP hq
    clear hq
    go_wp2_with fail
    go_ret2
    exact ⟨by rw [HV.out, HQ2.out]; rfl, b2⟩
end Go.Proofs.YtmepmiokpcddbabGreatDoor

set_option linter.unusedVariables false
set_option linter.unusedSimpArgs false
namespace Go.Proofs.YtmepmiokpcddbabGreatDoor
open Go.RowKit

theorem EO.set {w : World} {B g i : Nat} {x : Em} {v : Value} (h : EO w B x) (ht : Ty w g 45) : EO (w.setCell ⟨g, i, none⟩ v) B x :=
  ⟨World.ownsRow.kept h.ops (grown_set w g i v) (own_ne h.ops ht (by decide)), ⟨h.map.cuts.set ht (by decide), h.map.own.set ht (by decide)⟩⟩
/-- the result's box is written -/
theorem eo_four {w wr : World} {g : Nat} {a b c d : Value} {x : Em} (hr : Box wr g 45 #[a, b, c, d]) (hl : w.heap.size ≤ g) (hn : EO wr w.heap.size x) (hb : Below w.heap.size w wr) (p q r s : Value) :
    EO ((((wr.setCell ⟨g, 0, none⟩ p).setCell ⟨g, 1, none⟩ q).setCell ⟨g, 2, none⟩ r).setCell ⟨g, 3, none⟩ s) w.heap.size x ∧ Below w.heap.size w ((((wr.setCell ⟨g, 0, none⟩ p).setCell ⟨g, 1, none⟩ q).setCell ⟨g, 2, none⟩ r).setCell ⟨g, 3, none⟩ s) := by
  have h1 := hr.set 0 p
  have h2 := h1.set 1 q
  have h3 := h2.set 2 r
  exact ⟨(((hn.set hr.ty).set h1.ty).set h2.ty).set h3.ty, below_four hb hl p q r s⟩
end Go.Proofs.YtmepmiokpcddbabGreatDoor
