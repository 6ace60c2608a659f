/-
  rokeep.waste.
  (*merge.Merge).Waits.
  slices.Equal at ints.
  rokeep.mergeBegun.
  (*parts.Parts).Part.
  (*copies.Copies).Part.
  rokeep.spoil at pairs.
  rokeep.spoil at one type.
  rokeep.run.
  slices.Equal at pairs: two that read the same are equal.
-/
import Derived.Test.YtefdipjhjgmokaaGreatDoorBy44
import Derived.Test.YtefdipjhjgmokaaGreatDoorBy6
import Derived.Test.YtefdipjhjgmokaaGreatDoorBy1
import Derived.WalkKit
import Derived.WalkSpells
import Derived.WalkLawsBesides
import Derived.Deep.QuietTactic
import Derived.BigQuiet
import Derived.Test.YtefdipjhjgmokaaGreatDoorBy25
import Derived.Test.YtefdipjhjgmokaaGreatDoorBy12
import Derived.Test.YtefdipjhjgmokaaGreatDoorBy26
import Derived.Test.YtefdipjhjgmokaaGreatDoorBy9
import Derived.Test.YtefdipjhjgmokaaGreatDoorBy10
import Derived.Test.YtefdipjhjgmokaaGreatDoorBy19
import Derived.Test.YtefdipjhjgmokaaGreatDoorBy2
import Derived.Lib.SlicesS
import Derived.Test.YtefdipjhjgmokaaGreatDoorBy20
import Derived.Test.YtefdipjhjgmokaaGreatDoorBy8
import Derived.Laws.StructEq
set_option linter.unusedVariables false
set_option linter.unusedSimpArgs false
namespace Go.Proofs.YtefdipjhjgmokaaGreatDoor
open Go.RowKit

set_option maxHeartbeats 1000000 in
set_option maxRecDepth 100000 in
theorem waste_any (B : Nat) (x : Em) (w : World) (hx : WE w B x) :
    Calls Tryz.prog 33 #[emV x] w fun e w' => e = .returned (.tuple #[]) ∧ Fr (eB x) w w' ∧ Kz w w' := by
  have b0 := (Below.refl w.heap.size w).alloc (Nat.le_refl _) (.cells (emC x) 42)
  have x0 := Box.new w 42 (emC x)
  have hx0 := hx.kz (Kz.of_below b0)
  have f0 : Fr (eB x) w (w.alloc (.cells (emC x) 42)) := Fr.of_below b0
  have k0 := Kz.of_below b0
  have hlt := x0.lt
  have HO := hideP (fun W (h : WE W B x) => spoilO_w B x.d.length x.c x.D ⟨0, ByteArray.empty, ByteArray.empty, 0⟩ W h.ops)
  have HC := hideP (fun W (h : WE W B x) => spoilS_w B x.m.cs.length x.m.ca x.m.A ⟨#[122]⟩ W h.cs)
  have HI := hideP (fun W (h : WE W B x) => spoilI_w B x.m.os.length x.m.co x.m.O 3 W h.os)
  have gl : ∀ {t : TypeId} {s n c : Nat} {A : Option Addr}, Wr w B t s A n c → some w.heap.size ≠ blk A := by
    intro t s n c A h e
    rcases h with ⟨h, _⟩ | ⟨g, cur, h1, _, h2, _⟩
    · rw [h] at e; cases e
    · rw [h1] at e; injection e with e; have := h2.lt; simp only at e; omega
  have HD : Hid (∀ a b : World, a.grownBy b (blk x.D) → WE a B x → Box a w.heap.size 42 (emC x) → Fr (eB x) a b ∧ Box b w.heap.size 42 (emC x)) := hideP fun a b h hx1 hb => ⟨Fr.of_grown h fun k hk => .inl hk, hb.grown h (gl hx.ops)⟩
  have HA : Hid (∀ a b : World, a.grownBy b (blk x.m.A) → WE a B x → Box a w.heap.size 42 (emC x) → Fr (eB x) a b ∧ Box b w.heap.size 42 (emC x)) := hideP fun a b h hx1 hb => ⟨Fr.of_grown h fun k hk => .inr (.inl hk), hb.grown h (gl hx.cs)⟩
  have HE : Hid (∀ a b : World, a.grownBy b (blk x.m.O) → WE a B x → Box a w.heap.size 42 (emC x) → Fr (eB x) a b ∧ Box b w.heap.size 42 (emC x)) := hideP fun a b h hx1 hb => ⟨Fr.of_grown h fun k hk => .inr (.inr hk), hb.grown h (gl hx.os)⟩
  clear gl hx b0
  unfold emV
  unfold emC at *
  have c0 := x0.cell 0 (v := .slice x.D x.d.length x.c) rfl
  go_enter Tryz.func33, Tryz.ntmps33
  go_wp2_with fail
  refine (HO.out _ hx0).mono ?_
  rintro e w2 ⟨rfl, hg2, hk2⟩
  obtain ⟨f2, x2⟩ := HD.out _ _ hg2 hx0 x0
  have hx2 := hx0.kz hk2
  have hf2 := f0.comp f2
  have hkz2 := k0.trans hk2
  clear HO HD c0 hx0 x0 f2 hg2 hk2 f0 k0
  have c1 := x2.cell 2 (v := .slice x.m.A x.m.cs.length x.m.ca) rfl
  go_wp2_with fail
  refine (HC.out _ hx2).mono ?_
  rintro e w3 ⟨rfl, hg3, hk3⟩
  obtain ⟨f3, x3⟩ := HA.out _ _ hg3 hx2 x2
  have hx3 := hx2.kz hk3
  have hf3 := hf2.comp f3
  have hkz3 := hkz2.trans hk3
  clear HC HA c1 hx2 x2 f3 hg3 hk3 hf2 hkz2
  have c2 := x3.cell 3 (v := .slice x.m.O x.m.os.length x.m.co) rfl
  go_wp2_with fail
  refine (HI.out _ hx3).mono ?_
  rintro e w4 ⟨rfl, hg4, hk4⟩
  obtain ⟨f4, x4⟩ := HE.out _ _ hg4 hx3 x3
  have hf4 := hideP (hf3.comp f4)
  have hkz4 := hideP (hkz3.trans hk4)
  clear HI HE c2 hx3 x3 f4 hg4 hk4 hf3 hkz3 x4
  go_wp2_with fail
  go_end0
  exact ⟨rfl, hf4.out, hkz4.out⟩
end Go.Proofs.YtefdipjhjgmokaaGreatDoor

set_option linter.unusedVariables false
set_option linter.unusedSimpArgs false
namespace Go.Proofs.YtefdipjhjgmokaaGreatDoor
open Go.RowKit

/-- the first of the inputs that are waited for -/
def waitK (cl : List Nat) (r k : Nat) : List Nat := (List.range k).filter fun i => decide (cl[i]? = some r)
theorem waitK_step (cl : List Nat) (r k q : Nat) (h : cl[k]? = some q) : waitK cl r (k + 1) = if q = r then waitK cl r k ++ [k] else waitK cl r k := by
  unfold waitK
  rw [List.range_succ, List.filter_append]
  by_cases e : q = r
  · subst e; simp [h]
  · rw [if_neg e]
    have : (decide (cl[k]? = some r)) = false := by rw [h]; simpa using e
    simp [this]
theorem waitK_len (cl : List Nat) (r k : Nat) : (waitK cl r k).length ≤ k := by
  have := List.length_filter_le (fun i => decide (cl[i]? = some r)) (List.range k)
  rw [List.length_range] at this
  exact this
/-- what Waits hands back -/
def RetWt (w : World) (l : List Nat) (e : Ending) (w' : World) : Prop := ∃ A c, e = .returned (.slice A l.length c) ∧ OR w' w.heap.size 3 A c (nV l) ∧ Below w.heap.size w w'
def WtI (w : World) (cl : List Nat) (r n : Nat) (s i : Value) (wr : World) : Prop :=
  ∃ (k : Nat) (A : Option Addr) (c : Nat), k ≤ n ∧ i = .int .i64 k ∧ s = .slice A (waitK cl r k).length c ∧ OR wr w.heap.size 3 A c (nV (waitK cl r k)) ∧ Below w.heap.size w wr
set_option maxHeartbeats 2000000 in
set_option maxRecDepth 100000 in
theorem mwaits_any (B g : Nat) (tx : Tx) (AI : Option Addr) (cI : Nat) (ins : List In) (added : Nat) (w : World) (h : MG w B g tx AI cI ins added) (hG : Gm ins added) :
    Calls Tryz.prog 38 #[.pointer (some ⟨g, 0, none⟩)] w (RetWt w (waitM (ctM ins))) := by
  have c0 := h.c0
  have HR := hideP (mrounds_any B g tx AI cI ins added w h hG)
  have HEND := hideP (show waitK (cloL (ctM ins)) (rndM (ctM ins)) ins.length = waitM (ctM ins) by unfold waitK waitM; rw [show (ctM ins).length = ins.length by simp [ctM]])
  have HST := hideP (fun r => show waitK (cloL (ctM ins)) r 0 = [] from rfl)
  have HCE := hideP (fun (wr : World) (hb : Below w.heap.size w wr) (k : Nat) (hk : k < ins.length) => show ∃ (gi : Nat) (A : Option Addr) (n c q : Nat), AI = some ⟨gi, 0, none⟩ ∧ wr.cell? ⟨gi, k, none⟩ = some (.slice A n c) ∧ n = q + 1 ∧ n ≤ 61 ∧ (cloL (ctM ins))[k]? = some q from by
    obtain ⟨x, hx⟩ : ∃ x, ins[k]? = some x := ⟨_, List.getElem?_eq_getElem hk⟩
    obtain ⟨gi, e, hc⟩ := (h.below hb).cell_ hx
    obtain ⟨q, hq⟩ := h.pos hx
    exact ⟨gi, _, _, _, q, e, hc, hq, hG.bs _ x hx, by rw [clo_ct, List.getElem?_map, hx]; simp [hq]⟩)
  have hfew := hG.few
  generalize cloL (ctM ins) = cl at HEND HST HCE
  generalize rndM (ctM ins) = rr at HR HEND
  generalize waitM (ctM ins) = wt at HEND ⊢
  clear h hG
  go_enter Tryz.func38, Tryz.ntmps38
  go_wp2_with fail
  refine HR.out.mono ?_
  rintro e w' ⟨rfl, rfl⟩
  clear HR
  go_wp2_with fail
  go_loopw [4, 14] (WtI w cl rr ins.length) (fun _ i _ => ins.length - (intOf i).toNat)
  case atStart => exact ⟨0, none, 0, Nat.zero_le _, rfl, rfl, OR.nil _ _ _, Below.refl _ _⟩
  case round =>
    obtain ⟨k, A, c, hk, rfl, rfl, hor, hb⟩ := hrel
    by_cases hlt : k < ins.length
    · obtain ⟨gi, A1, n1, c1, q, rfl, hc, hq, hn, hcl⟩ := HCE.out wr hb k hlt
      have HC := hideP (fun W => closed_any A1 n1 c1 q hq (by omega) W)
      have HSTEP := hideP (waitK_step cl rr k q hcl)
      have hwl := waitK_len cl rr k
      have g2 : (0 : Int) ≤ (k : Int) := by omega
      have g3 : (k : Int) < (ins.length : Int) := by omega
      clear c0 hcl hq
      by_cases e : q = rr
      · subst e
        obtain ⟨A', c', w2, hrun, hor2, hbel, _, _⟩ := app_row (P := Tryz.prog) Tryz.underlying22 intInfo rfl wr w.heap.size 22 A c _ hor [.int .i64 (k : Int)] (by simp [Value.oneCell']) (by simp [nV]; omega) (by decide) hb.size
        have b2 := hbel _ _ (Nat.le_refl _) hb
        rw [show nV (waitK cl q k) ++ [.int .i64 (k : Int)] = nV (waitK cl q (k + 1)) by rw [HSTEP.out, if_pos rfl]; simp [nV]] at hrun hor2
        rw [nV_length, nV_length] at hrun
        have HR := hideP hrun
        have HREL := hideP (fun (i : Value) (hi : i = .int .i64 ((k + 1 : Nat) : Int)) => show WtI w cl q ins.length (.slice A' (waitK cl q (k + 1)).length c') i w2 from ⟨k + 1, A', c', by omega, hi, rfl, hor2, b2⟩)
        clear hrun hor hb hor2 b2
        generalize waitK cl q (k + 1) = l2 at HR HREL HSTEP
        generalize waitK cl q k = l1 at HR HSTEP hwl ⊢
        go_wp2_with fail
        refine (HC.out _).mono ?_
        rintro e w' ⟨rfl, rfl⟩
        go_wp2_with (at_builtin; refine Lib.wpList_append_run _ rfl _ _ _ _ rfl _ _ rfl rfl _ _ HR.out ?_)
        go_roundw
        case rel => exact HREL.out _ (by go_num)
        case measure => simp [intOf]; omega
      · have HE := hideP (show waitK cl rr (k + 1) = waitK cl rr k by rw [HSTEP.out, if_neg e])
        have d1 : ((q : Int) == (rr : Int)) = false := by simp; omega
        clear HSTEP
        go_wp2_with fail
        refine (HC.out _).mono ?_
        rintro e w' ⟨rfl, rfl⟩
        go_wp2_with fail
        go_roundw
        case rel => exact ⟨k + 1, A, c, by omega, by go_num, by rw [HE.out], by rw [HE.out]; exact hor, hb⟩
        case measure => simp [intOf]; omega
    · obtain rfl : k = ins.length := by omega
      rw [HEND.out] at hor ⊢
      go_wp2_with fail
      go_ret
      exact ⟨A, c, rfl, hor, hb⟩
end Go.Proofs.YtefdipjhjgmokaaGreatDoor

set_option linter.unusedVariables false
set_option linter.unusedSimpArgs false
namespace Go.Proofs.YtefdipjhjgmokaaGreatDoor
open Go.RowKit

set_option maxHeartbeats 400000 in
set_option maxRecDepth 100000 in
theorem iequal_same (A1 A2 : Option Addr) (c1 c2 : Nat) (l : List Nat) (w : World) (h1 : VS w A1 (nV l)) (h2 : VS w A2 (nV l)) (hl : l.length < 4611686018427387904) :
    Calls Tryz.prog 58 #[.slice A1 l.length c1, .slice A2 l.length c2] w fun e w' => e = .returned (.bool true) ∧ Below w.heap.size w w' := by
  have d0 : ((l.length : Int) != (l.length : Int)) = false := by simp
  go_enter Tryz.func58, Tryz.ntmps58
  go_wp2_with fail
  go_loopw [13] (fun i wr => ∃ k : Nat, k ≤ l.length ∧ i = .int .i64 k ∧ Below w.heap.size w wr) (fun i _ => l.length - (intOf i).toNat)
  case atStart => exact ⟨0, Nat.zero_le _, rfl, Below.refl _ _⟩
  case round =>
    obtain ⟨k, hk, rfl, hb⟩ := hrel
    by_cases hlt : k < l.length
    · obtain ⟨b, o, rfl, hbl, q1⟩ := h1.below hb k (.int .i64 (l[k] : Int)) (by simp [nV, hlt])
      obtain ⟨b', o', rfl, hbl', q2⟩ := h2.below hb k (.int .i64 (l[k] : Int)) (by simp [nV, hlt])
      clear h1 h2
      generalize (l[k] : Int) = p at q1 q2
      have g1 : (0 : Int) ≤ (k : Int) := by omega
      have g2 : (k : Int) < (l.length : Int) := by omega
      have dp : (p != p) = false := by simp
      go_wp2_with fail
      go_quiet (fail)
      go_wp2_with fail
      go_roundw
      case rel => exact ⟨k + 1, by omega, by go_num, ⟨hb.os, hb.tape, hb.output, hb.size, hb.block⟩⟩
      case measure => simp [intOf]; omega
    · go_wp2_with fail
      go_ret
      exact ⟨rfl, hb⟩
end Go.Proofs.YtefdipjhjgmokaaGreatDoor

set_option linter.unusedVariables false
set_option linter.unusedSimpArgs false
namespace Go.Proofs.YtefdipjhjgmokaaGreatDoor
open Go.RowKit

theorem wait_one : waitM (closeM (List.replicate 2 [([] : List Ent)]) 1) = [0] := by decide
theorem clo_one : closeQ (List.replicate 2 [([] : List Ent)]) 1 = 0 ∧ closeN (List.replicate 2 [([] : List Ent)]) 1 = 1 ∧ closeC (List.replicate 2 [([] : List Ent)]) 1 = closeM (List.replicate 2 [([] : List Ent)]) 1 := ⟨by decide, by decide, rfl⟩
set_option maxHeartbeats 1000000 in
set_option maxRecDepth 100000 in
theorem mbegun_any (w : World) :
    Calls Tryz.prog 21 #[] w fun e w' => e = .returned (.bool true) ∧ Below w.heap.size w w' := by
  go_enter Tryz.func21, Tryz.ntmps21
  go_wp2_with fail
  refine (show Calls Tryz.prog 23 #[.int .i64 2] w (RetNm w 2) from mnew_ok 2 w (by decide) (by decide)).mono ?_
  rintro e w1 ⟨s, rfl, _, hs, hct, hb1⟩
  have HC := hideP (mclose_any s _ 1 w1 hs)
  rw [hct, clo_one.1, clo_one.2.1, clo_one.2.2] at HC
  go_wp2_with fail
  refine HC.out.mono ?_
  clear HC
  rintro e w2 ⟨s2, rfl, hT⟩
  have hb2 : Below w.heap.size w w2 := hT.below_ hs (Nat.le_refl _) hb1
  have HW := hideP (mwaits_any _ s2.g s2.x s2.AI s2.cI s2.ins s2.added w2 hT.ok.mg hT.ok.gm)
  have hw : waitM (ctM s2.ins) = [0] := by have := hT.ct; unfold Ms.ct at this; rw [this]; exact wait_one
  rw [hw, hT.g] at HW
  clear hw hT hs hct hb1
  go_wp2_with fail
  refine HW.out.mono ?_
  clear HW
  rintro e w3 ⟨A, c, rfl, hor, hb3⟩
  have b3 := hb2.trans (hb3.mono hb2.size)
  have al := (Below.refl w3.heap.size w3).alloc (Nat.le_refl _) (.cells #[.int .i64 0] 3)
  have b4 := b3.trans (al.mono b3.size)
  have HE := hideP (iequal_same A (some ⟨w3.heap.size, 0, none⟩) c 1 [0] _ (hor.below al).vs (VS.lit0 w3 3) (by decide))
  simp only [List.length_singleton] at HE ⊢
  clear hor hb3 b3 al hb2
  go_wp2_with fail
  refine HE.out.mono ?_
  rintro e w4 ⟨rfl, h4⟩
  have b5 := b4.trans (h4.mono b4.size)
  go_wp2_with fail
  go_ret
  exact ⟨rfl, b5⟩

end Go.Proofs.YtefdipjhjgmokaaGreatDoor

set_option linter.unusedVariables false
set_option linter.unusedSimpArgs false
namespace Go.Proofs.YtefdipjhjgmokaaGreatDoor
open Go.RowKit

set_option maxHeartbeats 400000 in
set_option maxRecDepth 100000 in
theorem ppart_ok (B g : Nat) (m : Mp) (l : List Pr) (q : Dv) (k : Nat) (w : World) (h : PB w B g m l q) (hk : k < 4) :
    Calls Tryz.prog 102 #[.pointer (some ⟨g, 0, none⟩), .int .i64 k] w fun e w' => ∃ A c, e = .returned (.tuple #[.slice A (ptL m.cs m.os (k : Int) l).length c, .int .i64 0]) ∧ OV w' w.heap.size A c (ptL m.cs m.os (k : Int) l) ∧ Below w.heap.size w w' := by
  have p0 : w.cell? ⟨g, 2 + k, none⟩ = some (.slice (q.A k) (ptL m.cs m.os (k : Int) l).length (q.c k)) := h.p hk
  have hsm := h.ok.small
  have hp : (ptL m.cs m.os (k : Int) l).length ≤ l.length := List.length_filter_le _ _
  have HC : Hid (Calls Tryz.prog 134 #[.slice (some ⟨w.heap.size, 0, none⟩) 1 1] (w.alloc (.cells #[.slice (q.A k) (ptL m.cs m.os (k : Int) l).length (q.c k)] 36)) fun e w' => ∃ A c, e = .returned (.slice A (ptL m.cs m.os (k : Int) l).length c) ∧ OV w' w.heap.size A c (ptL m.cs m.os (k : Int) l) ∧ Below w.heap.size w w') := hideP (by
    have hb := (Below.refl w.heap.size w).alloc (Nat.le_refl _) (.cells #[.slice (q.A k) (ptL m.cs m.os (k : Int) l).length (q.c k)] 36)
    refine (concat1 w w.heap.size rfl (q.A k) _ (q.c k) _ rfl (h.own k hk).sv.ps (by omega)).mono ?_
    rintro e w1 ⟨v, rfl, hrow, hb1⟩
    obtain ⟨A1, c1, rfl, ho⟩ := OV.of_own hrow
    exact ⟨A1, c1, rfl, ho.mono hb.size, hb.trans (hb1.mono hb.size)⟩)
  have g0 : (0 : Int) ≤ (k : Int) := by omega
  have g1 : (k : Int) < 4 := by omega
  generalize ptL m.cs m.os (k : Int) l = pt at p0 HC
  clear h hsm hp
  go_enter Tryz.func102, Tryz.ntmps102
  go_wp2_with fail
  refine HC.out.mono ?_
  rintro e w1 ⟨A1, c1, rfl, ho, hb⟩
  go_wp2_with fail
  go_ret2
  exact ⟨A1, c1, rfl, ho, hb⟩
set_option maxHeartbeats 400000 in
set_option maxRecDepth 100000 in
theorem ppart_bad (g : Nat) (i : Int) (w : World) (hk : i < 0 ∨ 4 ≤ i) :
    Calls Tryz.prog 102 #[.pointer (some ⟨g, 0, none⟩), .int .i64 i] w fun e w' => e = .returned (.tuple #[.slice none 0 0, .int .i64 1]) ∧ w = w' := by
  by_cases h : i < 0
  · go_enter Tryz.func102, Tryz.ntmps102
    go_wp2_with fail
    go_ret2
    exact ⟨rfl, rfl⟩
  · have h4 : 4 ≤ i := by omega
    go_enter Tryz.func102, Tryz.ntmps102
    go_wp2_with fail
    go_ret2
    exact ⟨rfl, rfl⟩
end Go.Proofs.YtefdipjhjgmokaaGreatDoor

set_option linter.unusedVariables false
set_option linter.unusedSimpArgs false
namespace Go.Proofs.YtefdipjhjgmokaaGreatDoor
open Go.RowKit

set_option maxRecDepth 100000 in
theorem cpart_any (c : Cs) (B : Nat) (i k : Nat) (r : Rp) (w : World) (h : c.Ok w B) (hi : c.rs[i]? = some r) (hk : k < 4) :
    Calls Tryz.prog 41 #[.pointer (some ⟨c.s.g, 0, none⟩), .int .i64 (i : Int), .int .i64 (k : Int)] w fun e w' => ∃ A cp, e = .returned (.tuple #[.slice A (ptL r.m.cs r.m.os (k : Int) r.l).length cp, .int .i64 0]) ∧ OV w' w.heap.size A cp (ptL r.m.cs r.m.os (k : Int) r.l) ∧ Below w.heap.size w w' := by
  have hil := (List.getElem?_eq_some_iff.1 hi).1
  have HH := hideP (chas_any c B (i : Int) w h)
  rw [dec_in hil] at HH
  have c0 := h.c2
  obtain ⟨gr, hAR, _, q0, q1⟩ := h.at_ hi
  rw [hAR] at c0
  have HA := hideP (ppart_ok B r.g r.m r.l r.q k w (h.ro i r hi).pb hk)
  have g1 : (0 : Int) ≤ (i : Int) := by omega
  have g2 : (i : Int) < (c.rs.length : Int) := by omega
  generalize c.s.g = g at c0 HH ⊢
  generalize c.rs.length = n at c0 g2
  generalize ptL r.m.cs r.m.os (k : Int) r.l = pt at HA ⊢
  clear h hi hAR hil
  go_enter Tryz.func41, Tryz.ntmps41
  go_wp2_with fail
  refine HH.out.mono ?_
  rintro e w' ⟨rfl, rfl⟩
  go_wp2_with fail
  refine HA.out.mono ?_
  rintro e w1 ⟨A, cp, rfl, ho, hb⟩
  go_wp2_with fail
  go_ret2
  exact ⟨A, cp, rfl, ho, hb⟩
end Go.Proofs.YtefdipjhjgmokaaGreatDoor

set_option linter.unusedVariables false
set_option linter.unusedSimpArgs false
namespace Go.Proofs.YtefdipjhjgmokaaGreatDoor
open Go.RowKit

/-- while a slice is spoilt -/
structure SpH (w : World) (g c : Nat) (gx : Nat) (key : ByteArray) (n : Int) (wr : World) : Prop where
  bx : ∃ cur, Box wr g 63 cur ∧ cur.size = c * 2
  x : Box wr gx 63 #[.string key, .int .i64 n]
  ne : g ≠ gx
  gr : w.grownBy wr (some g)

set_option maxHeartbeats 1000000 in
set_option maxRecDepth 100000 in
theorem pspoil_any (B : Nat) (A : Option Addr) (c : Nat) (l : List Pr) (key : ByteArray) (n : Int) (w : World) (hA : OV w B A c l) (hc : c ≤ 9223372036854775807) :
    Calls Tryz.prog 43 #[.slice A l.length c, .agg #[.string key, .int .i64 n]] w fun e w' => e = .returned (.tuple #[]) ∧ w.grownBy w' (blk A) := by
  have hb := (Below.refl w.heap.size w).alloc (Nat.le_refl _) (.cells #[.string key, .int .i64 n] 63)
  rcases hA.2 with ⟨hv, h0⟩ | ⟨g, cap, cur, hv, hB, hbk, h1, h2, h3, h4⟩
  · injection hv with e1 e2 e3
    subst e1; subst e3
    rw [e2]
    go_enter Tryz.func43, Tryz.ntmps43
    go_wp2_with fail
    go_loopw [11] (fun i wr => i = .int .i64 0 ∧ w.alloc (.cells #[.string key, .int .i64 n] 63) = wr) (fun _ _ => 0)
    case atStart => exact ⟨rfl, rfl⟩
    case round =>
      obtain ⟨rfl, rfl⟩ := hrel
      go_wp2_with fail
      go_end0
      exact ⟨rfl, ⟨hb.os, hb.tape, hb.output, hb.size, fun k hk _ => hb.block k hk⟩⟩
  · injection hv with e1 e2 e3
    subst e1; subst e3
    have hbx : Box w g 63 cur := hbk
    have hlt := hbx.lt
    have hS : SpH w g c w.heap.size key n (w.alloc (.cells #[.string key, .int .i64 n] 63)) := ⟨⟨cur, hbx.alloc _, h3⟩, Box.new _ _ _, by omega, ⟨hb.os, hb.tape, hb.output, hb.size, fun k hk _ => hb.block k hk⟩⟩
    have gl : (l.length : Int) ≤ (c : Int) := by omega
    clear hA hbk h4 hbx h3
    go_enter Tryz.func43, Tryz.ntmps43
    go_wp2_with fail
    generalize w.alloc _ = w1 at hS ⊢
    generalize w.heap.size = gx at hS ⊢
    go_loopw [11] (fun i wr => ∃ k : Nat, k ≤ c ∧ i = .int .i64 k ∧ SpH w g c gx key n wr) (fun i _ => c - (intOf i).toNat)
    case atStart => exact ⟨0, Nat.zero_le _, rfl, hS⟩
    case round =>
      clear hS
      obtain ⟨k, hk, rfl, hS⟩ := hrel
      obtain ⟨cr, hcr, hsz⟩ := hS.bx
      by_cases hkc : k < c
      · have g1 : (0 : Int) ≤ (k : Int) := by omega
        have g2 : (k : Int) < (c : Int) := by omega
        have z0 := hS.x.cell 0 (v := .string key) rfl
        have z1 := hS.x.cell 1 (v := .int .i64 n) rfl
        have hi0 : k * 2 < cr.size := by omega
        have hi1 : k * 2 + 1 < cr.size := by omega
        have d0 := hcr.cell (k * 2) (v := cr[k * 2]) (by simp [hi0])
        have f0 := hcr.frozen (k * 2)
        have o1 := hcr.set (k * 2) (.string key)
        have d1 := o1.cell (k * 2 + 1) (v := cr[k * 2 + 1]) (by rw [Array.getElem?_setIfInBounds_ne (by omega)]; simp [hi1])
        have f1 := o1.frozen (k * 2 + 1)
        have hN : SpH w g c gx key n ((wr.setCell ⟨g, k * 2, none⟩ (.string key)).setCell ⟨g, k * 2 + 1, none⟩ (.int .i64 n)) := by
          refine ⟨⟨_, o1.set (k * 2 + 1) (.int .i64 n), by simp [hsz]⟩, (hS.x.other (a := ⟨g, k * 2, none⟩) hS.ne _).other (a := ⟨g, k * 2 + 1, none⟩) hS.ne _, hS.ne, ?_⟩
          have ga := grown_set wr g (k * 2) (.string key)
          have gb := grown_set (wr.setCell ⟨g, k * 2, none⟩ (.string key)) g (k * 2 + 1) (.int .i64 n)
          have gab : wr.grownBy ((wr.setCell ⟨g, k * 2, none⟩ (.string key)).setCell ⟨g, k * 2 + 1, none⟩ (.int .i64 n)) (some g) := ⟨gb.os.trans ga.os, gb.tape.trans ga.tape, gb.output.trans ga.output, Nat.le_trans ga.size gb.size, fun i hi hne => (gb.block i (Nat.lt_of_lt_of_le hi ga.size) hne).trans (ga.block i hi hne)⟩
          exact ⟨gab.os.trans hS.gr.os, gab.tape.trans hS.gr.tape, gab.output.trans hS.gr.output, Nat.le_trans hS.gr.size gab.size, fun i hi hne => (gab.block i (Nat.lt_of_lt_of_le hi hS.gr.size) hne).trans (hS.gr.block i hi hne)⟩
        have HN := hideP hN
        clear hN o1 hcr hS hsz
        go_wp2_with fail
        go_roundw
        case rel => exact ⟨k + 1, by omega, by go_num, HN.out⟩
        case measure => simp [intOf]; omega
      · have hgr := hS.gr
        go_wp2_with fail
        go_end0
        exact ⟨rfl, hgr⟩
end Go.Proofs.YtefdipjhjgmokaaGreatDoor

set_option linter.unusedVariables false
set_option linter.unusedSimpArgs false
namespace Go.Proofs.YtefdipjhjgmokaaGreatDoor
open Go.RowKit

set_option maxHeartbeats 1000000 in
set_option maxRecDepth 100000 in
theorem spoilB_any (B : Nat) (A : Option Addr) (c : Nat) (xs : List Value) (x : Bool) (w : World) (hA : OR w B 4 A c xs) :
    Calls Tryz.prog 44 #[.slice A xs.length c, .bool x] w fun e w' => e = .returned (.tuple #[]) ∧ w.grownBy w' (blk A) := by
  rcases hA.2 with ⟨hv, h0⟩ | ⟨g, cap, cur, hv, hB, hbk, h1, h2, h3, h4⟩
  · injection hv with e1 e2 e3
    subst e1; subst e3
    rw [e2]
    go_enter Tryz.func44, Tryz.ntmps44
    go_wp2_with fail
    go_loopw [11] (fun i wr => i = .int .i64 0 ∧ w = wr) (fun _ _ => 0)
    case atStart => exact ⟨rfl, rfl⟩
    case round =>
      obtain ⟨rfl, rfl⟩ := hrel
      go_wp2_with fail
      go_end0
      exact ⟨rfl, ⟨rfl, rfl, rfl, Nat.le_refl _, fun _ _ _ => rfl⟩⟩
  · injection hv with e1 e2 e3
    subst e1; subst e3
    have hbx : Box w g 4 cur := hbk
    have gl : (xs.length : Int) ≤ (c : Int) := by omega
    have hc : c ≤ 9223372036854775807 := by unfold maxLen at h2; exact h2
    have hS : (∃ cur, Box w g 4 cur ∧ cur.size = c) ∧ w.grownBy w (some g) := ⟨⟨cur, hbx, by omega⟩, ⟨rfl, rfl, rfl, Nat.le_refl _, fun _ _ _ => rfl⟩⟩
    clear hA hbk h4 hbx h3
    go_enter Tryz.func44, Tryz.ntmps44
    go_wp2_with fail
    go_loopw [11] (fun i wr => ∃ k : Nat, k ≤ c ∧ i = .int .i64 k ∧ (∃ cur, Box wr g 4 cur ∧ cur.size = c) ∧ w.grownBy wr (some g)) (fun i _ => c - (intOf i).toNat)
    case atStart => exact ⟨0, Nat.zero_le _, rfl, hS⟩
    case round =>
      clear hS
      obtain ⟨k, hk, rfl, ⟨cr, hcr, hsz⟩, hgr⟩ := hrel
      by_cases hkc : k < c
      · have g1 : (0 : Int) ≤ (k : Int) := by omega
        have g2 : (k : Int) < (c : Int) := by omega
        have hi0 : k < cr.size := by omega
        have d0 := hcr.cell k (v := cr[k]) (by simp [hi0])
        have f0 := hcr.frozen k
        have o1 := hcr.set k (.bool x)
        have ga := grown_set wr g k (.bool x)
        have HN := hideP (show (∃ cur, Box (wr.setCell ⟨g, k, none⟩ (.bool x)) g 4 cur ∧ cur.size = c) ∧ w.grownBy (wr.setCell ⟨g, k, none⟩ (.bool x)) (some g) from ⟨⟨_, o1, by simp [hsz]⟩, ⟨ga.os.trans hgr.os, ga.tape.trans hgr.tape, ga.output.trans hgr.output, Nat.le_trans hgr.size ga.size, fun i hi hne => (ga.block i (Nat.lt_of_lt_of_le hi hgr.size) hne).trans (hgr.block i hi hne)⟩⟩)
        clear o1 hcr hgr hsz ga
        go_wp2_with fail
        go_roundw
        case rel => exact ⟨k + 1, by omega, by go_num, HN.out⟩
        case measure => simp [intOf]; omega
      · go_wp2_with fail
        go_end0
        exact ⟨rfl, hgr⟩
end Go.Proofs.YtefdipjhjgmokaaGreatDoor

set_option linter.unusedVariables false
set_option linter.unusedSimpArgs false
namespace Go.Proofs.YtefdipjhjgmokaaGreatDoor
open Go.RowKit

/-- what run hands back -/
def RetRun3 (w : World) (r : VF × Bool) (e : Ending) (w' : World) : Prop :=
  ∃ A c l, e = .returned (.tuple #[.slice A (l : List Pr).length c, .bool r.2, .bool true]) ∧ OV w' w.heap.size A c l ∧ Ok l ∧ valOf l = r.1 ∧ Below w.heap.size w w'
set_option maxHeartbeats 400000 in
set_option maxRecDepth 100000 in
theorem rrun_ok (A D : Option Addr) (c cd : Nat) (l : List Pr) (d : List Opr) (w : World) (hA : SV w A c l) (h : Ok l) (hD : OS w w.heap.size D d) (hd : chkD d = 0) :
    Calls Tryz.prog 40 #[.slice A l.length c, .agg #[.slice D d.length cd]] w (RetRun3 w (doneV (valOf l) d)) := by
  have hb0 := (Below.refl w.heap.size w).alloc (Nat.le_refl _) (.cells #[.slice D d.length cd] 40)
  have hA0 := hA.below hb0
  have hD0 := hD.go hb0
  go_enter Tryz.func40, Tryz.ntmps40
  go_wp2_with fail
  refine (run_ok A D c cd l d _ hA0 h hD0 hd).mono ?_
  rintro e w1 ⟨A1, c1, l1, rfl, hO, hok, hv, hb1⟩
  have HV := hideP hv
  have hb2 := hb0.trans (hb1.mono hb0.size)
  have hO2 := hO.mono hb0.size
  clear hv
  go_wp2_with fail
  go_ret3
  exact ⟨A1, c1, l1, rfl, hO2, hok, HV.out, hb2⟩

end Go.Proofs.YtefdipjhjgmokaaGreatDoor

set_option linter.unusedVariables false
set_option linter.unusedSimpArgs false
namespace Go.Proofs.YtefdipjhjgmokaaGreatDoor
open Go.RowKit

theorem run_neq_pair (k : ByteArray) (n : Int) (w : World) : (binOp .neq 63 (.agg #[.string k, .int .i64 n]) (.agg #[.string k, .int .i64 n])).run Tryz.prog w = .ok (.bool false) w := by
  have u3 := Tryz.underlying3
  have u9 := Tryz.underlying9
  have a3 := Tryz.isAgg3
  have z3 := Tryz.sizeOf3
  have a9 := Tryz.isAgg9
  have z9 := Tryz.sizeOf9
  have hS : Tryz.prog.underlying 63 = some (.struct (Tryz.prog.fieldsOf 63)) := by kernel_rfl
  have hp : Tryz.prog.stoodInHeld 63 = false := by kernel_rfl
  rw [run_neq_struct, show (10000 : Nat) = 9999 + 1 from rfl, run_equalIn_agg w 9999 63 _ _ hS hp]
  simp only [Program.fieldsOf, Tryz.underlying63]
  go_simp

theorem guard_pair (x y : Operand) (xs ys : Array Value) (w : World) : (eqGuard .neq 63 x y (.agg xs) (.agg ys)).run Tryz.prog w = .ok () w := run_eqGuard_agg w .neq 63 x y xs ys (by kernel_rfl)

set_option maxHeartbeats 400000 in
set_option maxRecDepth 100000 in
theorem equal_same (A1 A2 : Option Addr) (c1 c2 : Nat) (l : List Pr) (w : World) (h1 : PS w w.heap.size A1 l) (h2 : PS w w.heap.size A2 l) (hl : l.length < 4611686018427387904) :
    Calls Tryz.prog 20 #[.slice A1 l.length c1, .slice A2 l.length c2] w fun e w' => e = .returned (.bool true) ∧ Below w.heap.size w w' := by
  have d0 : ((l.length : Int) != (l.length : Int)) = false := by simp
  go_enter Tryz.func20, Tryz.ntmps20
  go_wp2_with fail
  go_loopw [13] (fun i wr => ∃ k : Nat, k ≤ l.length ∧ i = .int .i64 k ∧ Below w.heap.size w wr) (fun i _ => l.length - (intOf i).toNat)
  case atStart => exact ⟨0, Nat.zero_le _, rfl, Below.refl _ _⟩
  case round =>
    obtain ⟨k, hk, rfl, hb⟩ := hrel
    by_cases hlt : k < l.length
    · obtain ⟨b, o, rfl, hbl, q1, q2⟩ := h1.below hb k _ (List.getElem?_eq_getElem hlt)
      obtain ⟨b', o', rfl, hbl', q3, q4⟩ := h2.below hb k _ (List.getElem?_eq_getElem hlt)
      clear h1 h2
      generalize l[k] = p at q1 q2 q3 q4
      have g1 : (0 : Int) ≤ (k : Int) := by omega
      have g2 : (k : Int) < (l.length : Int) := by omega
      have n1 := run_neq_pair p.1 p.2
      have n2 := guard_pair
      go_wp2_with fail
      go_quiet (fail)
      go_wp2_with fail
      go_roundw
      case rel => exact ⟨k + 1, by omega, by go_num, ⟨hb.os, hb.tape, hb.output, hb.size, hb.block⟩⟩
      case measure => simp [intOf]; omega
    · go_wp2_with fail
      go_ret
      exact ⟨rfl, hb⟩
end Go.Proofs.YtefdipjhjgmokaaGreatDoor
