/-
  rolaw.CopiesPlay: the walk.
-/
import Derived.Test.YtefdipjhjgmokaaGreatDoorBx39
import Derived.Test.YtefdipjhjgmokaaGreatDoorBx40
import Derived.Test.YtefdipjhjgmokaaGreatDoorBx35
import Derived.Test.YtefdipjhjgmokaaGreatDoorBx29
import Derived.Laws.MakeOwn
import Derived.Deep.RegionLaw
import Derived.Deep.RegionHeld3
import Derived.Deep.CutBlock
import Derived.Deep.DeepCutAuto
set_option linter.unusedVariables false
set_option linter.unusedSimpArgs false
namespace Go.Proofs.YtefdipjhjgmokaaGreatDoor
open Go.RowKit Go.WideMaps Go.Maps

theorem OR.of_boxZ {w : World} {g B : Nat} {t : TypeId} {cs : Array Value} (h : Box w g t cs) (hB : B ≤ g) (hl : cs.size ≤ maxLen) : OR w B t (some ⟨g, 0, none⟩) cs.size cs.toList := by
  unfold OR
  rw [Array.length_toList]
  exact ⟨by simp, .inr ⟨g, cs.size, cs, rfl, hB, h, Nat.le_refl _, hl, by simp, by rw [Nat.mul_one]; exact List.take_of_length_le (by simp)⟩⟩
theorem cy_okm : OkM [] [1] := chkM_ok.1 (by decide +kernel)
theorem cy_val {cs : List ByteArray} {os : List Int} {l : List Pr} (h : Ok l) (n : Int) : valOf (ptL cs os n l) = ownF cs os n (valOf l) := funext fun x => by
  unfold ptL ownF
  rw [valOf_filter h.srt (fun k => decide (whV cs os k = n))]
  by_cases e : whV cs os x = n <;> simp [e]
/-- rows of noughts -/
def zs0 (n : Nat) : Array Value := (nV (List.replicate n 0)).toArray
theorem run_zeros (n : Nat) (h1 : 1 ≤ n) (h4 : n ≤ 4) (w : World) : (Instr.makeSlice 22 (.int .i64 (n : Int)) (.int .i64 (n : Int))).run Tryz.prog w = .ok (.slice (some ⟨w.heap.size, 0, none⟩) n n) (w.alloc (.cells (zs0 n) 3)) := by
  obtain ⟨i0, hi0, hz0, hz1, hz2⟩ := info_parts intInfo
  have e : madeCells (Value.int .i64 0).cells (n * 1) = zs0 n := Array.toList_inj.1 (by rw [made_ints]; simp [zs0])
  have : n = 1 ∨ n = 2 ∨ n = 3 ∨ n = 4 := by omega
  rcases this with rfl | rfl | rfl | rfl
  · have h := run_make (P := Tryz.prog) w 22 3 i0 _ Tryz.underlying22 hi0 hz0 .i64 .i64 1 1 (by decide) (by decide) (by rw [hz2]; decide) (by decide)
    rw [hz1] at h
    rw [show (Int.toNat 1 : Nat) = 1 from rfl, e] at h
    exact h
  · have h := run_make (P := Tryz.prog) w 22 3 i0 _ Tryz.underlying22 hi0 hz0 .i64 .i64 2 2 (by decide) (by decide) (by rw [hz2]; decide) (by decide)
    rw [hz1] at h
    rw [show (Int.toNat 2 : Nat) = 2 from rfl, e] at h
    exact h
  · have h := run_make (P := Tryz.prog) w 22 3 i0 _ Tryz.underlying22 hi0 hz0 .i64 .i64 3 3 (by decide) (by decide) (by rw [hz2]; decide) (by decide)
    rw [hz1] at h
    rw [show (Int.toNat 3 : Nat) = 3 from rfl, e] at h
    exact h
  · have h := run_make (P := Tryz.prog) w 22 3 i0 _ Tryz.underlying22 hi0 hz0 .i64 .i64 4 4 (by decide) (by decide) (by rw [hz2]; decide) (by decide)
    rw [hz1] at h
    rw [show (Int.toNat 4 : Nat) = 4 from rfl, e] at h
    exact h
/-- nothing that was there has changed -/
def Blw (w W : World) : Prop := Below w.heap.size w W
theorem Blw.drew {w W : World} (h : Blw w W) : Blw w W.drew := Below.drew h
theorem Blw.al {w W : World} (h : Blw w W) (o : Obj) : Blw w (W.alloc o) := Below.alloc h (Below.size h) o
theorem Blw.go {w W V : World} (h : Blw w W) (hb : Below W.heap.size W V) : Blw w V := Below.trans h (hb.mono (Below.size h))
theorem Rs.Ok.mono_ {s : Rs} {w0 w : World} {B B' : Nat} (h : s.Ok w0 w B) (hB : B' ≤ B) (hl : w0.heap.size ≤ B') : s.Ok w0 w B' :=
  ⟨⟨h.rg.box, Nat.le_trans hB h.rg.low, own_mono h.rg.row hB, fun i x hx => own_mono (h.rg.inp i x hx) hB, h.rg.ne, fun i x k b hx hb => (h.rg.bat i x k b hx hb).mono hB, h.rg.apI⟩, h.gm, h.be, hl⟩
def CyS (w w5 : World) (g : Nat) (m0 : Mp) (l0 : List Pr) (n : Nat) (c : Cs) (v : Value) (wc : World) : Prop := ∃ (gc gr : Nat) (d : Rc), v = .pointer (some ⟨gc, 0, none⟩) ∧ CyE w w5.heap.size g gc gr m0 l0 n c d wc
/-- the document's Copies are made -/
theorem cy_made {w w5 W : World} {ni n gz b : Nat} {m : Mp} {l : List Pr} {c : Cs} {s : Rs} (hco : c.Ok w5 w.heap.size) (hct : c.s.ct = List.replicate ni [[]]) (hst : c.st = List.replicate n ⟨valOf l, m.cs, m.os, []⟩) (hm : MS w m) (hok : OkM m.cs m.os) (hokl : Go.Proofs.YtefdipjhjgmokaaGreatDoor.Ok l)
    (b5 : Below w.heap.size w w5) (hb : Blw w5 W) (hs : s.Ok w W w5.heap.size) (hsc : s.ct = List.replicate ni [[]]) (hv : MV W b l.length (valOf l)) (hz : OR W w5.heap.size 3 (some ⟨gz, 0, none⟩) n (nV (List.replicate n 0))) :
    CyS w w5 c.s.g m l n c (.pointer (some ⟨W.heap.size, 0, none⟩)) (W.alloc (.cells #[.pointer (some ⟨s.g, 0, none⟩), .slice m.A m.cs.length m.ca, .slice m.O m.os.length m.co, .map (some b), .slice (some ⟨gz, 0, none⟩) n n] 106)) := by
  have al := (Below.refl W.heap.size W).alloc (Nat.le_refl _) (.cells #[.pointer (some ⟨s.g, 0, none⟩), .slice m.A m.cs.length m.ca, .slice m.O m.os.length m.co, .map (some b), .slice (some ⟨gz, 0, none⟩) n n] 106)
  have xb := Box.new W 106 #[.pointer (some ⟨s.g, 0, none⟩), .slice m.A m.cs.length m.ca, .slice m.O m.os.length m.co, .map (some b), .slice (some ⟨gz, 0, none⟩) n n]
  have hsm := hokl.small
  have hlo : ∀ q, c.F q → q < w5.heap.size := fun q hq => (hco.lo hq).2
  have h1 : CyH w w5.heap.size c.s.g W.heap.size s.g m l n c ⟨s, W.heap.size, m, b, l.length, l, some ⟨gz, 0, none⟩, n, List.replicate n 0⟩ (W.alloc (.cells #[.pointer (some ⟨s.g, 0, none⟩), .slice m.A m.cs.length m.ca, .slice m.O m.os.length m.co, .map (some b), .slice (some ⟨gz, 0, none⟩) n n] 106)) := by
    refine ⟨(hco.below hb).below al, rfl, ⟨hs.below al, by unfold Rc.cs; simpa using xb, Below.size hb, hm, hok, hv.below al, hokl, by show l.length ≤ 400000000; omega, hz.below al⟩, rfl, rfl, rfl, rfl, fun q hq hd => ?_, fun q hq ho => ?_, by simp, b5.trans ((Blw.go hb al).mono b5.size)⟩
    · have h1 := hlo q hq
      rcases hd with hd | hd
      · have := (hs.lo hd).1; omega
      · have := (World.ownsRow.lt hz q (bo _ _ hd)).1; omega
    · have h1 := hco.O_lt ho
      have := (World.ownsRow.lt hz q (bo _ _ hq)).1
      omega
  refine ⟨W.heap.size, s.g, _, rfl, h1.fin (hct.trans hsc.symm) ?_ (fun k hk => by have := List.eq_of_mem_replicate hk; omega)⟩
  rw [hst]
  unfold Rc.st
  simp only [List.map_replicate, List.take_zero]
  rfl
def CyI (w : World) (Br g gc gr : Nat) (m0 : Mp) (l0 : List Pr) (n t : Nat) (i : Value) (wr : World) : Prop := ∃ (k : Nat) (c : Cs) (d : Rc), k ≤ t ∧ i = .int .i64 k ∧ CyE w Br g gc gr m0 l0 n c d wr
/-- while the replicas are looked at -/
def CyJ (w : World) (Br g gc gr : Nat) (m0 : Mp) (l0 : List Pr) (n : Nat) (c : Cs) (d : Rc) (i : Value) (wr : World) : Prop := ∃ k : Nat, k ≤ 5 ∧ i = .int .i64 k ∧ CyE w Br g gc gr m0 l0 n c d wr
/-- a call of both has been made -/
def CyR (w : World) (Br g gc gr : Nat) (m0 : Mp) (l0 : List Pr) (n : Nat) (ve vf : Value) (wc : World) : Prop := ∃ (q : Int) (c : Cs) (d : Rc), ve = .int .i64 q ∧ vf = .int .i64 q ∧ CyE w Br g gc gr m0 l0 n c d wc
set_option maxHeartbeats 16000000 in
set_option maxRecDepth 100000 in
theorem cy_walk (i0 n0 : Int) (m : Mp) (A1 A2 A3 : Option Addr) (c1 c2 c3 : Nat) (l : List Pr) (cs : List Cl) (xs : List Em) (w : World) (hm : MS w m) (hA : SV w A1 c1 l) (hl : l.length < 4611686018427387904)
    (h1 : LS w A2 cs) (hl1 : cs.length ≤ c2) (hc1 : c2 ≤ 9223372036854775807) (h2 : EL w A3 xs) (hl2 : xs.length ≤ 9223372036854775807) :
    Calls Tryz.prog 5 #[.int .i64 i0, .int .i64 n0, .agg #[.slice m.A m.cs.length m.ca, .slice m.O m.os.length m.co], .slice A1 l.length c1, .slice A2 cs.length c2, .slice A3 xs.length c3] w fun e w' => e = .returned (.bool true) ∧ Below w.heap.size w w' := by
  have b0 := ((Below.refl w.heap.size w).alloc (Nat.le_refl _) (.cells #[.slice m.A m.cs.length m.ca, .slice m.O m.os.length m.co] 34)).alloc (by simp) (.cells #[.int .i64 1] 3)
  have y0 := (Box.new w 34 #[.slice m.A m.cs.length m.ca, .slice m.O m.os.length m.co]).alloc (.cells #[.int .i64 1] 3)
  have x0 := Box.new (w.alloc (.cells #[.slice m.A m.cs.length m.ca, .slice m.O m.os.length m.co] 34)) 3 #[.int .i64 1]
  rw [World.size_alloc] at x0
  have hm1 : MS ((w.alloc (.cells #[.slice m.A m.cs.length m.ca, .slice m.O m.os.length m.co] 34)).alloc (.cells #[.int .i64 1] 3)) ⟨none, 0, [], some ⟨w.heap.size + 1, 0, none⟩, 1, [1]⟩ :=
    ⟨VS.nil, VS.is_int (l := [1]) (VS.of_box x0), by simp, by simp, by simp [maxLen], by simp [maxLen], (fun _ => rfl), (fun e => by cases e)⟩
  have HN := hideP (cnew_ok 1 1 _ none 0 [] _ (by decide) (by decide) (by decide) (by decide) hm1 PS.nil cy_okm Ok.nil)
  simp only [List.length_nil, List.length_singleton] at HN
  clear hm1 x0
  go_enter Tryz.func5, Tryz.ntmps5
  go_wp2_with fail
  refine HN.out.mono ?_
  clear HN
  rintro e w1 ⟨cx, rfl, hokx, -, hstx, hb1⟩
  have b1 := b0.trans (hb1.mono b0.size)
  have y1 := y0.below hb1
  have HT := ctake_any cx _ 0 1 w1 hokx
  obtain ⟨q1, q2⟩ := ct_none (st := cx.st) (i := 0) (k := 1) (by rw [hstx]; simp)
  rw [q1, q2] at HT
  have HTT := hideP (show Calls Tryz.prog 45 #[.pointer (some ⟨cx.s.g, 0, none⟩), .int .i64 0, .int .i64 1] w1 (fun e w' => e = .returned (.int .i64 4) ∧ Below w.heap.size w1 w' ∧ Box w' w.heap.size 34 #[.slice m.A m.cs.length m.ca, .slice m.O m.os.length m.co]) from HT.mono fun e w' ⟨c', he, T⟩ => ⟨he, T.below_ hokx b0.size (Below.refl _ _), T.fr.box y1 fun hF => by have := (hokx.lo hF).1; simp at this; omega⟩)
  clear HT q1 q2 hokx hstx b0 y0 hb1
  go_wp2_with fail
  refine HTT.out.mono ?_
  clear HTT
  rintro e w2 ⟨rfl, hb2, y2⟩
  have b2 := b1.trans hb2
  have z1 := y2.cell 0 (v := .slice m.A m.cs.length m.ca) rfl
  have z2 := y2.cell 1 (v := .slice m.O m.os.length m.co) rfl
  clear b1 hb2 y1
  have hml : m.os.length ≤ 9223372036854775807 := by have := hm.lo; have := hm.mo; unfold maxLen at this; omega
  have HRM := hideP (fun (W : World) (h : Below w.heap.size w W) => rmap_any m W (hm.below h) hml)
  have HRS := hideP (fun (W : World) (h : Below w.heap.size w W) => rstore_any A1 c1 l W (hA.below h).ps (by omega))
  by_cases hv : cnV i0 n0 m.cs m.os l = 0
  · have hin : ((1 ≤ i0 ∧ i0 ≤ 4) ∧ (1 ≤ n0 ∧ n0 ≤ 4)) ∧ errV m.cs m.os l = 0 := by
      unfold cnV at hv
      by_cases e : (1 ≤ i0 ∧ i0 ≤ 4) ∧ (1 ≤ n0 ∧ n0 ≤ 4)
      · rw [if_pos e] at hv; exact ⟨e, hv⟩
      · rw [if_neg e] at hv; exact absurd hv (by decide)
    obtain ⟨⟨⟨i1, i4⟩, n1, n4⟩, he⟩ := hin
    have hck : chkM m.cs m.os = 0 := by
      unfold errV at he
      by_cases e : chkM m.cs m.os = 0
      · exact e
      · rw [if_pos e] at he; exact he
    have hcl : chk ByteArray.empty l = 0 := by
      unfold errV at he
      rw [if_neg (by simp [hck])] at he; exact he
    have hok := chkM_ok.1 hck
    have hokl := chk_ok.1 hcl
    obtain ⟨ni, rfl⟩ : ∃ k : Nat, i0 = k := ⟨i0.toNat, by omega⟩
    obtain ⟨n, rfl⟩ : ∃ k : Nat, n0 = k := ⟨n0.toNat, by omega⟩
    have HCN := hideP (cnew_ok ni n m A1 c1 l w2 (by omega) (by omega) (by omega) (by omega) (hm.below b2) (hA.below b2).ps hok hokl)
    rw [hck] at HRM
    rw [hcl] at HRS
    have g1 : ¬ (ni : Int) < 1 := by omega
    have g2 : ¬ (4 : Int) < (ni : Int) := by omega
    have g3 : ¬ (n : Int) < 1 := by omega
    have g4 : ¬ (4 : Int) < (n : Int) := by omega
    have d1 : decide ((ni : Int) < 1) = false := decide_eq_false g1
    have d2 : decide ((4 : Int) < (ni : Int)) = false := decide_eq_false g2
    have d3 : decide ((n : Int) < 1) = false := decide_eq_false g3
    have d4 : decide ((4 : Int) < (n : Int)) = false := decide_eq_false g4
    clear he hck hcl hv
    go_wp2_with fail
    refine HCN.out.mono ?_
    clear HCN
    rintro e w3 ⟨c, rfl, hco, hct, hcst, hb3⟩
    have b3 := b2.trans (hb3.mono b2.size)
    have y3 := y2.below hb3
    have z1 := y3.cell 0 (v := .slice m.A m.cs.length m.ca) rfl
    have z2 := y3.cell 1 (v := .slice m.O m.os.length m.co) rfl
    have hco3 := hco.mono b2.size
    clear hco hb3 b2 y2
    go_wp2_with fail
    refine (HRM.out w3 b3).mono ?_
    clear HRM
    rintro e w4 ⟨rfl, hb4⟩
    have b4 := b3.trans (hb4.mono b3.size)
    have y4 := y3.below hb4
    have hco4 := hco3.below hb4
    clear hb4 b3 y3 hco3 z1 z2
    go_wp2_with fail
    refine (HRS.out w4 b4).mono ?_
    clear HRS
    rintro e w5 ⟨rfl, hb5⟩
    have b5 := b4.trans (hb5.mono b4.size)
    have y5 := y4.below hb5
    have hco5 := hco4.below hb5
    have z1 := y5.cell 0 (v := .slice m.A m.cs.length m.ca) rfl
    have z2 := y5.cell 1 (v := .slice m.O m.os.length m.co) rfl
    clear hb5 b4 y4 hco4
    have HZ := hideP (fun (W : World) (hb : Blw w5 W) => show OR (W.alloc (.cells (zs0 n) 3)) w5.heap.size 3 (some ⟨W.heap.size, 0, none⟩) n (nV (List.replicate n 0)) from by
      have x := Box.new W 3 (zs0 n)
      have h := OR.of_boxZ x (Below.size hb) (by simp [zs0, nV, maxLen]; omega)
      simpa [zs0, nV] using h)
    have hzr := run_zeros n (by omega) (by omega)
    have HNM := hideP (fun (W : World) (hb : Blw w5 W) => show Calls Tryz.prog 48 #[.int .i64 (ni : Int)] W (fun e w' => ∃ s : Rs, e = .returned (.pointer (some ⟨s.g, 0, none⟩)) ∧ s.Ok w w' w5.heap.size ∧ s.ct = List.replicate ni [[]] ∧ Below W.heap.size W w' ∧ Blw w5 w') from
      (rnew_any ni w W (by omega) (by omega) (b5.trans (Below.mono hb b5.size))).mono fun e w' ⟨s, h1, h2, h3, h4⟩ => ⟨s, h1, h2.mono_ (Below.size hb) b5.size, h3, h4, hb.go h4⟩)
    have HOF := hideP (fun (W : World) (hb : Blw w5 W) => show Calls Tryz.prog 49 #[.slice A1 l.length c1] W (fun e w' => ∃ b, e = .returned (.map (some b)) ∧ MV w' b l.length (valOf l) ∧ Below W.heap.size W w' ∧ Blw w5 w') from
      (of_mv A1 c1 l W (hA.below (b5.trans (Below.mono hb b5.size))) hokl).mono fun e w' ⟨b, h1, h2, h3⟩ => ⟨b, h1, h2, h3, hb.go h3⟩)
    have HFI := hideP (fun (W : World) (s : Rs) (b gz : Nat) (hb : Blw w5 W) (hs : s.Ok w W w5.heap.size) (hsc : s.ct = List.replicate ni [[]]) (hv : MV W b l.length (valOf l)) (hz : OR W w5.heap.size 3 (some ⟨gz, 0, none⟩) n (nV (List.replicate n 0))) => cy_made hco5 hct hcst hm hok hokl b5 hb hs hsc hv hz)
    have HSZ := hideP (fun (W : World) (hb : Blw w5 W) => show W.cell? ⟨w.heap.size, 0, none⟩ = some (.slice m.A m.cs.length m.ca) ∧ W.cell? ⟨w.heap.size, 1, none⟩ = some (.slice m.O m.os.length m.co) from ⟨(y5.below hb).cell 0 rfl, (y5.below hb).cell 1 rfl⟩)
    have hB0 : Blw w5 w5 := Below.refl w5.heap.size w5
    have hB : Blw w5 w5.drew := (Below.refl w5.heap.size w5).drew
    generalize w.heap.size = gm at HSZ z1 z2 ⊢
    clear hct hcst hco5 y5 hA hokl hok z1 z2
    go_wp2_with fail
    go_cut [18] (CyS w w5 c.s.g m l n c)
    case first =>
      go_region_held3 (fun W => W.cell? ⟨gm, 0, none⟩ = some (.slice m.A m.cs.length m.ca) ∧ W.cell? ⟨gm, 1, none⟩ = some (.slice m.O m.os.length m.co)) (first | with_reducible exact HSZ.out _ hO | (refine HSZ.out _ ?_; (repeat first | with_reducible exact hO | with_reducible exact hN | with_reducible exact hB | with_reducible exact hB0 | with_reducible apply Blw.al | with_reducible apply Blw.drew))) (first
        | (go_at_call 49
           first
             | (refine (HOF.out _ hN).mono ?_; rintro e wo ⟨b, rfl, hv, hbo, hO⟩)
             | (refine (HOF.out _ (hN.al _)).mono ?_; rintro e wo ⟨b, rfl, hv, hbo, hO⟩; have hz2 := (HZ.out _ hN).below hbo))
        | (go_at_call 48
           first
             | (refine (HNM.out _ hB).mono ?_; rintro e wn ⟨s, rfl, hs, hsc, hbn, hN⟩)
             | (refine (HNM.out _ (hB0.al _).drew).mono ?_; rintro e wn ⟨s, rfl, hs, hsc, hbn, hN⟩; have hz1 := ((HZ.out _ hB0).below (Below.refl _ _).drew).below hbn)))
      all_goals
        first
          | (have F := HFI.out wo s b _ hO (hs.below hbo) hsc hv (hz1.below hbo); clear hz1)
          | (have F := HFI.out wo s b _ hO (hs.below (((Below.refl wn.heap.size wn).alloc (Nat.le_refl _) _).trans (hbo.mono (Below.size (Blw.al (Below.refl wn.heap.size wn) _))))) hsc hv hz2; clear hz2)
          | (have F := HFI.out (wo.alloc (.cells (zs0 n) 3)) s b _ (hO.al _) ((hs.below hbo).below ((Below.refl wo.heap.size wo).alloc (Nat.le_refl _) _)) hsc (hv.below ((Below.refl wo.heap.size wo).alloc (Nat.le_refl _) _)) (HZ.out wo hO))
        clear hs hsc hv hO hbo hbn hN
        go_wp2_with fail
        go_meet
        case rel => first | exact F | (rw [World.size_alloc] at F; exact F)
    case rest =>
      as_aux_lemma =>
        obtain ⟨gc, gr, d, rfl, hE⟩ := hcut
        have HLS := hideP (fun (W : World) (hb : Below w.heap.size w W) => h1.below hb)
        have HPK := hideP (fun (y : Int) => pickE_at A3 c3 xs y hl2)
        have HXS := hideP (fun (W : World) (hb : Below w.heap.size w W) => h2.below hb)
        have HES := hideP (fun (x : Em) (hx : x = em0 ∨ x ∈ xs) => show ES w x from hx.elim (fun e => by subst e; exact (em0_eo w w.heap.size).es (by simp [em0])) (h2.es x))
        have HN4 := hideP (And.intro n1 n4)
        generalize c.s.g = g at hE ⊢
        generalize w5.heap.size = Br at hE
        have hI : CyI w Br g gc gr m l n cs.length (.int .i64 0) wc := ⟨0, c, d, Nat.zero_le _, rfl, hE⟩
        clear HZ hzr HNM HOF HFI HSZ hB hB0 h1 h2 hE i1 i4 n1 n4 g1 g2 g3 g4 d1 d2 d3 d4 hml b5
        go_wp2_with fail
        go_loopw [108] (CyI w Br g gc gr m l n cs.length) (fun i _ => cs.length - (intOf i).toNat)
        case atStart => exact hI
        case round =>
          clear hI
          obtain ⟨t, c, d, ht, rfl, hE⟩ := hrel
          by_cases hlt : t < cs.length
          · have hL := HLS.out wr hE.be
            obtain ⟨b, o, hA, hbl, q1⟩ := hL.vs t (clV cs[t]) (by simp [hlt])
            obtain ⟨hI, hzc, hcc⟩ := hL.is_ _ (List.getElem_mem hlt)
            subst hA
            generalize cs[t] = x at q1 hI hzc hcc
            obtain ⟨Ac, cc, zs⟩ := x
            simp only [clV] at q1
            simp only at hI hzc hcc
            have g1 : (0 : Int) ≤ (t : Int) := by omega
            have g2 : (t : Int) < (cs.length : Int) := by omega
            have HA := hideP (fun (j : Nat) => rat_any Ac cc zs j wr hI (by omega))
            have HA0 := hideP (show Calls Tryz.prog 50 #[.slice Ac zs.length cc, .int .i64 0] wr fun e w' => e = .returned (.int .i64 (zs.getD 0 0)) ∧ wr = w' from HA.out 0)
            have HA1 := hideP (show Calls Tryz.prog 50 #[.slice Ac zs.length cc, .int .i64 1] wr fun e w' => e = .returned (.int .i64 (zs.getD 1 0)) ∧ wr = w' from HA.out 1)
            have HA2 := hideP (show Calls Tryz.prog 50 #[.slice Ac zs.length cc, .int .i64 2] wr fun e w' => e = .returned (.int .i64 (zs.getD 2 0)) ∧ wr = w' from HA.out 2)
            generalize zs.getD 0 0 = y0 at HA0
            generalize zs.getD 1 0 = y1 at HA1
            generalize zs.getD 2 0 = y2 at HA2
            clear HA hI hL hbl
            go_wp2_with fail
            refine HA1.out.mono ?_
            rintro e w' ⟨rfl, rfl⟩
            go_wp2_with fail
            refine HA2.out.mono ?_
            rintro e w' ⟨rfl, rfl⟩
            go_wp2_with fail
            refine HA0.out.mono ?_
            rintro e w' ⟨rfl, rfl⟩
            clear HA0 HA1 HA2 q1
            go_upto_block 2 with fail
            go_cut [23, 24] (CyR w Br g gc gr m l n)
            case first =>
              by_cases hy1 : y0 = 1
              · as_aux_lemma =>
                  subst hy1
                  obtain ⟨x, hx, hpk⟩ := HPK.out y2
                  have hes := HES.out x hx
                  have hp1 := fun (W : World) (hb : Below w.heap.size w W) => hpk W (HXS.out W hb)
                  have HP := hideP hp1
                  have HAD := hideP (fun (W : World) (hb : Below wr.heap.size wr W) => cadd_any c _ y1 x W (hE.co.below hb) (hes.below (hE.be.trans (hb.mono hE.be.size))))
                  rw [hE.eq, hE.cg] at HAD
                  have HRA := hideP (fun (W : World) (c' : Cs) (hW : CyH w Br g gc gr m l n c' d W) => radd_any d.r w Br y1 x W hW.dok.ro hes)
                  rw [hE.dr] at HRA
                  have HC := hideP (fun (W : World) (c' : Cs) (hW : CyH w Br g gc gr m l n c' d W) => show W.cell? ⟨gc, 0, none⟩ = some (.pointer (some ⟨gr, 0, none⟩)) from by
                    have := hW.dok.box.cell 0 (v := .pointer (some ⟨d.r.g, 0, none⟩)) rfl
                    rw [hW.dg, hW.dr] at this
                    exact this)
                  have hEd : CyE w Br g gc gr m l n c d wr.drew := hE.below (Below.refl _ _).drew
                  have HADD := hideP (fun (r' : Rs) (c' : Cs) (W1 W2 W3 W4 : World) (hb : Below wr.drew.heap.size wr.drew W1) (T : c.To W1 w.heap.size c' W2 (addC d.r.ct y1 (entOf x)) c.st) (hb2 : Below W2.heap.size W2 W3) (T2 : d.r.To w W3 Br r' W4 (addC d.r.ct y1 (entOf x))) => show CyR w Br g gc gr m l n (.int .i64 (addQ d.r.ct y1 (entOf x))) (.int .i64 (addQ d.r.ct y1 (entOf x))) W4 from by
                    obtain ⟨d', h⟩ := hEd.add hb T hb2 T2
                    exact ⟨_, c', d', rfl, rfl, h⟩)
                  have HBD := hideP (show Below wr.heap.size wr wr.drew from (Below.refl _ _).drew)
                  have HH := hideP hEd.toCyH
                  generalize addQ d.r.ct y1 (entOf x) = qa at HAD HRA HADD
                  have k0 := HC.out _ _ hEd.toCyH
                  clear hE hEd hp1 hpk hes hx
                  unfold emV emC at HP HAD HRA
                  go_wp2_with fail
                  go_region_held3 (fun W => W.cell? ⟨gc, 0, none⟩ = some (.pointer (some ⟨gr, 0, none⟩))) (with_reducible first | exact k4 | exact k3 | exact k2 | exact k1 | exact k0) (first
                    | (go_at_call 52
                       refine (HRA.out _ _ hH3).mono ?_
                       rintro e v4 ⟨r', rfl, T2⟩
                       have k4 : v4.cell? ⟨gc, 0, none⟩ = some (.pointer (some ⟨gr, 0, none⟩)) := by
                         have h := hH3.stepD (hH3.dok.merge T2) hH3.nn
                         have := h.dok.box.cell 0 (v := .pointer (some ⟨r'.g, 0, none⟩)) rfl
                         have e1 := h.dg
                         have e2 := h.dr
                         simp only at e1 e2
                         rw [e1, e2] at this
                         exact this)
                    | (go_at_call 51
                       refine (HP.out _ hH2.be).mono ?_
                       rintro e v3 ⟨rfl, hp3⟩
                       have hH3 := hH2.below hp3
                       have k3 := HC.out _ _ hH3)
                    | (go_at_call 14
                       refine (HAD.out _ (HBD.out.trans (hp1.mono HBD.out.size))).mono ?_
                       rintro e v2 ⟨c', rfl, T1⟩
                       have hH2 := hH1.stepC T1
                       have k2 := HC.out _ _ hH2)
                    | (go_at_call 51
                       refine (HP.out _ HH.out.be).mono ?_
                       rintro e v1 ⟨rfl, hp1⟩
                       have hH1 := HH.out.below hp1
                       have k1 := HC.out _ _ hH1))
                  all_goals
                    have F := HADD.out r' c' v1 v2 v3 v4 hp1 T1 hp3 T2
                    clear T1 T2 hp1 hp3 hH1 hH2 hH3 k0 k1 k2 k3 k4 HADD HC HH HRA HAD HP
                    go_wp2_with fail
                    go_meet
                    case rel => exact F
              · have e1 : (y0 == 1) = false := beq_eq_false_iff_ne.2 hy1
                by_cases hy2 : y0 = 2
                · as_aux_lemma =>
                    subst hy2
                    have HCL := cclose_any c _ y1 wr hE.co
                    rw [hE.eq, hE.cg] at HCL
                    have HCC := hideP HCL
                    have HN := hideP (fun (c' : Cs) (v1 : World) (T : c.To wr w.heap.size c' v1 (closeC d.r.ct y1) c.st) => show v1.cell? ⟨gc, 0, none⟩ = some (.pointer (some ⟨gr, 0, none⟩)) ∧ Calls Tryz.prog 53 #[.pointer (some ⟨gr, 0, none⟩), .int .i64 y1] v1 fun e w' => e = .returned (.tuple #[.int .i64 (closeN d.r.ct y1), .int .i64 (closeQ d.r.ct y1)]) ∧ CyR w Br g gc gr m l n (.int .i64 (closeQ d.r.ct y1)) (.int .i64 (closeQ d.r.ct y1)) w' from by
                      have h1 := hE.toCyH.stepC T
                      constructor
                      · have := h1.dok.box.cell 0 (v := .pointer (some ⟨d.r.g, 0, none⟩)) rfl
                        rw [h1.dg, h1.dr] at this
                        exact this
                      · have HR := rclose_any d.r w Br y1 v1 h1.dok.ro
                        rw [h1.dr] at HR
                        refine HR.mono ?_
                        rintro e w' ⟨r', he, T2⟩
                        obtain ⟨d', h⟩ := hE.close T T2
                        exact ⟨he, _, c', d', rfl, rfl, h⟩)
                    generalize closeN d.r.ct y1 = ca at HCC HN
                    generalize closeQ d.r.ct y1 = cb at HCC HN
                    clear hE HCL hy1
                    go_wp2_with fail
                    refine HCC.out.mono ?_
                    clear HCC
                    rintro e v1 ⟨c', rfl, T⟩
                    obtain ⟨k1, hR⟩ := HN.out c' v1 T
                    have HR := hideP hR
                    clear T HN hR
                    go_wp2_with fail
                    refine HR.out.mono ?_
                    clear HR
                    rintro e v2 ⟨rfl, F⟩
                    go_wp2_with fail
                    go_meet
                    case rel => exact F
                · have e2 : (y0 == 2) = false := beq_eq_false_iff_ne.2 hy2
                  by_cases hy3 : y0 = 3
                  · as_aux_lemma =>
                      subst hy3
                      have hnn : d.dn.length ≤ 1000000 := by have := hE.nn; have := HN4.out; omega
                      have HCL := cstep_any c _ y1 wr hE.co
                      rw [hE.eq, hE.st, hE.cg] at HCL
                      have HCC := hideP HCL
                      have HN := hideP (fun (c' : Cs) (v1 : World) (T : c.To wr w.heap.size c' v1 d.r.ct (cpS (logM d.r.ct) d.st y1)) => show Calls Tryz.prog 54 #[.pointer (some ⟨gc, 0, none⟩), .int .i64 y1] v1 fun e w' => e = .returned (.tuple #[.bool (cpB (logM d.r.ct) d.st y1), .int .i64 (cpQ (logM d.r.ct) d.st y1)]) ∧ CyR w Br g gc gr m l n (.int .i64 (cpQ (logM d.r.ct) d.st y1)) (.int .i64 (cpQ (logM d.r.ct) d.st y1)) w' from by
                        have h1 := hE.toCyH.stepC T
                        have HR := rcstep_any d w Br y1 v1 h1.dok hE.le hnn
                        rw [h1.dg] at HR
                        refine HR.mono ?_
                        rintro e w' ⟨d', he, T2, h2, h3, h4⟩
                        exact ⟨he, _, c', d', rfl, rfl, hE.reps T T2 h2 h3 h4⟩)
                      generalize cpB (logM d.r.ct) d.st y1 = bq at HCC HN
                      generalize cpQ (logM d.r.ct) d.st y1 = cb at HCC HN
                      have db : (bq != bq) = false := by simp
                      clear hE HCL hy1 hy2 hnn
                      go_wp2_with fail
                      refine HCC.out.mono ?_
                      clear HCC
                      rintro e v1 ⟨c', rfl, T⟩
                      have HR := hideP (HN.out c' v1 T)
                      clear T HN
                      go_wp2_with fail
                      refine HR.out.mono ?_
                      clear HR
                      rintro e v2 ⟨rfl, F⟩
                      go_wp2_with fail
                      go_meet
                      case rel => exact F
                  · have e3 : (y0 == 3) = false := beq_eq_false_iff_ne.2 hy3
                    by_cases hy4 : y0 = 4
                    · as_aux_lemma =>
                        subst hy4
                        have hnn : d.dn.length ≤ 1000000 := by have := hE.nn; have := HN4.out; omega
                        have HCL := ctake_any c _ y1 y2 wr hE.co
                        rw [hE.eq, hE.st, hE.cg] at HCL
                        have HCC := hideP HCL
                        have HN := hideP (fun (c' : Cs) (v1 : World) (T : c.To wr w.heap.size c' v1 d.r.ct (ctS d.st y1 y2)) => show Calls Tryz.prog 55 #[.pointer (some ⟨gc, 0, none⟩), .int .i64 y1, .int .i64 y2] v1 fun e w' => e = .returned (.int .i64 (ctQ d.st y1 y2)) ∧ CyR w Br g gc gr m l n (.int .i64 (ctQ d.st y1 y2)) (.int .i64 (ctQ d.st y1 y2)) w' from by
                          have h1 := hE.toCyH.stepC T
                          have HR := rctake_any d w Br y1 y2 v1 h1.dok hE.le hnn
                          rw [h1.dg] at HR
                          refine HR.mono ?_
                          rintro e w' ⟨d', he, T2, h2, h3, h4⟩
                          exact ⟨he, _, c', d', rfl, rfl, hE.reps T T2 h2 h3 h4⟩)
                        generalize ctQ d.st y1 y2 = cb at HCC HN
                        clear hE HCL hy1 hy2 hy3 hnn
                        go_wp2_with fail
                        refine HCC.out.mono ?_
                        clear HCC
                        rintro e v1 ⟨c', rfl, T⟩
                        have HR := hideP (HN.out c' v1 T)
                        clear T HN
                        go_wp2_with fail
                        refine HR.out.mono ?_
                        clear HR
                        rintro e v2 ⟨rfl, F⟩
                        go_wp2_with fail
                        go_meet
                        case rel => exact F
                    · as_aux_lemma =>
                        have e4 : (y0 == 4) = false := beq_eq_false_iff_ne.2 hy4
                        have F : CyR w Br g gc gr m l n (.int .i64 0) (.int .i64 0) wr := ⟨0, c, d, rfl, rfl, hE⟩
                        clear hE
                        go_wp2_with fail
                        go_meet
                        case rel => exact F
            case rest =>
              as_aux_lemma =>
                obtain ⟨q, c, d, rfl, rfl, hE⟩ := hcut
                have dq : (q != q) = false := bne_self_eq_false _
                have hEd : CyE w Br g gc gr m l n c d wc.drew := hE.below (Below.refl _ _).drew
                have HC := hideP (fun (W : World) (hW : CyE w Br g gc gr m l n c d W) => show W.cell? ⟨gc, 0, none⟩ = some (.pointer (some ⟨gr, 0, none⟩)) from by
                  have := hW.dok.box.cell 0 (v := .pointer (some ⟨d.r.g, 0, none⟩)) rfl
                  rw [hW.dg, hW.dr] at this
                  exact this)
                have HRa := hideP (fun (W : World) (hW : CyE w Br g gc gr m l n c d W) => show Calls Tryz.prog 56 #[.pointer (some ⟨g, 0, none⟩)] W fun e w' => e = .returned (.int .i64 (rndM d.r.ct : Nat)) ∧ W = w' from by
                  rw [← hW.cg, ← hW.eq]; exact mrounds_any _ c.s.g c.s.x c.s.AI c.s.cI c.s.ins c.s.added W hW.co.ms.mg hW.co.ms.gm)
                have HRb := hideP (fun (W : World) (hW : CyE w Br g gc gr m l n c d W) => show Calls Tryz.prog 57 #[.pointer (some ⟨gr, 0, none⟩)] W fun e w' => e = .returned (.int .i64 (rndM d.r.ct : Nat)) ∧ W = w' from by
                  rw [← hW.dr]; exact rrounds_any d.r w _ W hW.dok.ro)
                have HWa := hideP (fun (W : World) (hW : CyE w Br g gc gr m l n c d W) => show Calls Tryz.prog 38 #[.pointer (some ⟨g, 0, none⟩)] W (RetWt W (waitM d.r.ct)) from by
                  rw [← hW.cg, ← hW.eq]; exact mwaits_any _ c.s.g c.s.x c.s.AI c.s.cI c.s.ins c.s.added W hW.co.ms.mg hW.co.ms.gm)
                have HWb := hideP (fun (W : World) (hW : CyE w Br g gc gr m l n c d W) => show Calls Tryz.prog 59 #[.pointer (some ⟨gr, 0, none⟩)] W (RetWt W (waitM d.r.ct)) from by
                  rw [← hW.dr]; exact rwaits_any d.r w _ W hW.dok.ro)
                have HLa := hideP (fun (W : World) (hW : CyE w Br g gc gr m l n c d W) => show Calls Tryz.prog 36 #[.pointer (some ⟨g, 0, none⟩)] W (RetLm W (logM d.r.ct)) from by
                  rw [← hW.cg, ← hW.eq]; exact clog_any c _ W hW.co)
                have HLb := hideP (fun (W : World) (hW : CyE w Br g gc gr m l n c d W) => show Calls Tryz.prog 60 #[.pointer (some ⟨gr, 0, none⟩)] W (RetRl w W (logM d.r.ct)) from by
                  rw [← hW.dr]; exact rlog_any d.r w _ W hW.dok.ro)
                have HFE := hideP (fun (ys : List Em) (h : ys.map entOf = logM d.r.ct) => log_fewM hE.co.ms hE.eq h)
                have HLN := hideP (show (logM d.r.ct).length ≤ 3600 from hE.le.lm)
                have HWL := hideP (show (waitM d.r.ct).length ≤ 4 from by
                  have h1 : (waitM d.r.ct).length ≤ d.r.ct.length := by
                    have := List.length_filter_le (fun i => decide ((cloL d.r.ct)[i]? = some (rndM d.r.ct))) (List.range d.r.ct.length)
                    rw [List.length_range] at this
                    exact this
                  have h2 := hE.dok.ro.gm.few
                  have h3 : d.r.ct.length = d.r.ins.length := by simp [Rs.ct, ctM]
                  omega)
                have HEQ := hideP (fun (W : World) (hW : CyE w Br g gc gr m l n c d W) (L1 L2 : Option Addr) (k1 k2 : Nat) (ya yb : List Em) (h1 : ya.map entOf = logM d.r.ct) (h2 : yb.map entOf = logM d.r.ct) (e1 : EL W L1 ya) (e2 : EL W L2 yb) => show Calls Tryz.prog 39 #[.slice L1 ya.length k1, .slice L2 yb.length k2, .func (.func 28) #[] #[]] W fun e w' => e = .returned (.bool true) ∧ Below W.heap.size W w' from by
                  have hyl : ya.length ≤ 3600 := by have := congrArg List.length h1; rw [List.length_map] at this; have := HLN.out; omega
                  have := eqfE_any L1 L2 k1 k2 ya yb W e1 e2 (HFE.out ya h1) (by omega)
                  rw [sameL_true (h1.trans h2.symm)] at this
                  exact this)
                have d5 : (((rndM d.r.ct : Nat) : Int) != ((rndM d.r.ct : Nat) : Int)) = false := bne_self_eq_false _
                have k0 := HC.out _ hEd
                have HH := hideP hEd
                clear hE hEd
                go_wp2_with fail
                go_region_held3 (fun W => W.cell? ⟨gc, 0, none⟩ = some (.pointer (some ⟨gr, 0, none⟩))) (with_reducible first | exact k6 | exact k5 | exact k4 | exact k3 | exact k2 | exact k1 | exact k0) (first
                  | (go_at_call 39
                     refine (HEQ.out v5 h5 L1 L2 n1 n2 ya yb hya hyb (hea.below hl5).el (heb.el h5.be)).mono ?_
                     rintro e v6 ⟨rfl, hl6⟩
                     have h6 := h5.below hl6
                     have k6 := HC.out _ h6)
                  | (go_at_call 60
                     refine (HLb.out v4 h4).mono ?_
                     rintro e v5 ⟨L2, n2, yb, rfl, hyb, heb, hl5⟩
                     have h5 := h4.below hl5
                     have k5 := HC.out _ h5)
                  | (go_at_call 36
                     refine (HLa.out v3 h3).mono ?_
                     rintro e v4 ⟨L1, n1, ya, rfl, hya, hea, hl4⟩
                     have h4 := h3.below hl4
                     have k4 := HC.out _ h4)
                  | (go_at_call 58
                     refine (iequal_same V1 V2 m1 m2 (waitM d.r.ct) v2 (ho1.below hl2).vs ho2.vs (by have := HWL.out; omega)).mono ?_
                     rintro e v3 ⟨rfl, hl3⟩
                     have h3 := h2.below hl3
                     have k3 := HC.out _ h3)
                  | (go_at_call 59
                     refine (HWb.out v1 h1).mono ?_
                     rintro e v2 ⟨V2, m2, rfl, ho2, hl2⟩
                     have h2 := h1.below hl2
                     have k2 := HC.out _ h2)
                  | (go_at_call 38
                     refine (HWa.out _ HH.out).mono ?_
                     rintro e v1 ⟨V1, m1, rfl, ho1, hl1⟩
                     have h1 := HH.out.below hl1
                     have k1 := HC.out _ h1)
                  | (go_at_call 57
                     refine (HRb.out _ HH.out).mono ?_
                     rintro e v' ⟨rfl, rfl⟩)
                  | (go_at_call 56
                     refine (HRa.out _ HH.out).mono ?_
                     rintro e v' ⟨rfl, rfl⟩))
                clear HEQ HLa HLb HWa HWb HRa HRb HFE HLN HWL k0 k1 k2 k3 k4 k5 k6 hya hyb hea heb ho1 ho2 h1 h2 h3 h4 h5 hl1 hl2 hl3 hl4 hl5 hl6 HH HC d5
                go_wp2_with fail
                as_aux_lemma =>
                  go_loopw [224] (CyJ w Br g gc gr m l n c d) (fun i _ => 5 - (intOf i).toNat)
                  case atStart => exact ⟨0, by omega, rfl, h6⟩
                  case round =>
                    clear h6
                    obtain ⟨k, hk5, rfl, hE⟩ := hrel
                    have hnn : d.dn.length ≤ 1000000 := by have := hE.nn; have := HN4.out; omega
                    have hrl : c.rs.length = n := by
                      have := congrArg List.length hE.st
                      simp only [Cs.st, Rc.st, List.length_map] at this
                      rw [this]
                      exact hE.nn
                    by_cases hlt5 : k < 5
                    · have gk : (k : Int) < 5 := by omega
                      by_cases hkn : k < n
                      · obtain ⟨r, hr⟩ : ∃ r, c.rs[k]? = some r := ⟨_, List.getElem?_eq_getElem (by rw [hrl]; exact hkn)⟩
                        obtain ⟨kd, hkd⟩ : ∃ q, d.dn[k]? = some q := ⟨_, List.getElem?_eq_getElem (by rw [hE.nn]; exact hkn)⟩
                        have hs : r.st = playR d.r0 ((logM d.r.ct).take kd) := by
                          have e1 : c.st[k]? = some r.st := by simp [Cs.st, hr]
                          have e2 := d.st_get hkd
                          rw [hE.st, e2] at e1
                          injection e1 with e1
                          exact e1.symm
                        have hkl := hE.le.le kd (List.mem_of_getElem? hkd)
                        have hokl := (hE.co.ro k r hr).pb.ok
                        have hokm := (hE.co.ro k r hr).pb.okm
                        have hsb := hE.co.small hr
                        have hsm := hokl.small
                        have HI := hideP (fun (W : World) (hW : CyE w Br g gc gr m l n c d W) => show Calls Tryz.prog 61 #[.pointer (some ⟨gc, 0, none⟩), .int .i64 (k : Int)] W fun e w' => e = .returned (.bool true) ∧ W = w' from by
                          have := rcis_any d w Br (k : Int) W hW.dok hnn
                          rw [hW.dg, decide_eq_true (by rw [hW.nn]; omega)] at this
                          exact this)
                        have HD := hideP (fun (W : World) (hW : CyE w Br g gc gr m l n c d W) => show Calls Tryz.prog 42 #[.pointer (some ⟨g, 0, none⟩), .int .i64 (k : Int)] W fun e w' => ∃ A cp, e = .returned (.tuple #[.slice A r.bs.length cp, .int .i64 0]) ∧ OR w' W.heap.size 4 A cp (r.bs.map Value.bool) ∧ Below W.heap.size W w' from by
                          rw [← hW.cg]; exact cdone_any c _ k r W hW.co hr)
                        have HA := hideP (fun (W : World) (hW : CyE w Br g gc gr m l n c d W) => show Calls Tryz.prog 19 #[.pointer (some ⟨g, 0, none⟩), .int .i64 (k : Int)] W fun e w' => ∃ A cp, e = .returned (.tuple #[.slice A r.l.length cp, .int .i64 0]) ∧ OV w' W.heap.size A cp r.l ∧ Below W.heap.size W w' from by
                          rw [← hW.cg]; exact call_any c _ k r W hW.co hr)
                        have HPO := hideP (fun (W : World) (hW : CyE w Br g gc gr m l n c d W) (p : Nat) (hp : p < 4) => show Calls Tryz.prog 41 #[.pointer (some ⟨g, 0, none⟩), .int .i64 (k : Int), .int .i64 (p : Int)] W fun e w' => ∃ A cp, e = .returned (.tuple #[.slice A (ptL r.m.cs r.m.os (p : Int) r.l).length cp, .int .i64 0]) ∧ OV w' W.heap.size A cp (ptL r.m.cs r.m.os (p : Int) r.l) ∧ Below W.heap.size W w' from by
                          rw [← hW.cg]; exact cpart_any c _ k p r W hW.co hr hp)
                        have HPA := hideP (fun (W : World) (hW : CyE w Br g gc gr m l n c d W) (hp : y2 < 0 ∨ 4 ≤ y2) => show Calls Tryz.prog 41 #[.pointer (some ⟨g, 0, none⟩), .int .i64 (k : Int), .int .i64 y2] W fun e w' => e = .returned (.tuple #[.slice none 0 0, .int .i64 1]) ∧ W = w' from by
                          rw [← hW.cg]; exact cpart_arg c _ k y2 r W hW.co hr hp)
                        have HNW := hideP (fun (W : World) (hW : CyE w Br g gc gr m l n c d W) => show Calls Tryz.prog 62 #[.pointer (some ⟨gc, 0, none⟩), .int .i64 (k : Int)] W fun e w' => ∃ (b nn : Nat) (A4 : Option Addr) (ca4 : Nat) (O4 : Option Addr) (co4 : Nat) (A5 : Option Addr) (c5 : Nat), e = .returned (.tuple #[.map (some b), .agg #[.slice A4 r.m.cs.length ca4, .slice O4 r.m.os.length co4], .slice A5 r.bs.length c5]) ∧ MV w' b nn (valOf r.l) ∧ nn ≤ 450000000 ∧ MS w ⟨A4, ca4, r.m.cs, O4, co4, r.m.os⟩ ∧ OR w' W.heap.size 4 A5 c5 (r.bs.map Value.bool) ∧ Below W.heap.size W w' from by
                          have := rnow_any d w Br k kd W hW.dok hkd hkl hE.le.ck hE.le.lm
                          rw [hW.dg, ← hs] at this
                          refine this.mono ?_
                          rintro e w' ⟨b, nn, ⟨A4, ca4, cs4, O4, co4, os4⟩, A5, c5, he, q1, q2, q3, q4, q5, q6, q7⟩
                          simp only at q4 q5
                          subst q4
                          subst q5
                          exact ⟨b, nn, A4, ca4, O4, co4, A5, c5, he, q1, q2, q3, q6, q7⟩)
                        have HPV := hideP (fun (p : Nat) => And.intro (cy_val (cs := r.m.cs) (os := r.m.os) hokl (p : Int)) (ptL_ok (cs := r.m.cs) (os := r.m.os) hokl (p : Int)))
                        have HPL := hideP (fun (p : Nat) => show (ptL r.m.cs r.m.os (p : Int) r.l).length ≤ r.l.length from List.length_filter_le _ _)
                        clear hr hkd hs hkl hrl hnn
                        generalize r.m.cs = mcs at HPO HNW HPV HPL hokm
                        generalize r.m.os = mos at HPO HNW HPV HPL hokm
                        generalize r.l = rl at HA HPO HNW HPV HPL hokl hsm
                        generalize r.bs = rbs at HD HNW hsb
                        by_cases hy : 0 ≤ y2 ∧ y2 ≤ 3
                        · as_aux_lemma =>
                            obtain ⟨p, rfl⟩ : ∃ p : Nat, y2 = p := ⟨y2.toNat, by omega⟩
                            have hp4 : p < 4 := by omega
                            have a1 : ¬ (p : Int) < 0 := by omega
                            have a2 : ¬ (3 : Int) < (p : Int) := by omega
                            have da : decide ((p : Int) < 0) = false := decide_eq_false a1
                            have db : decide ((3 : Int) < (p : Int)) = false := decide_eq_false a2
                            go_wp2_with fail
                            refine (HD.out _ hE).mono ?_
                            rintro e v1 ⟨D1, n1, rfl, o1, b1⟩
                            have s1 := o1.vs
                            have E1 := hE.below b1
                            clear hE o1 b1 HD
                            go_wp2_with fail
                            refine (HA.out _ E1).mono ?_
                            rintro e v2 ⟨D2, n2, rfl, o2, b2⟩
                            have s2 := o2.sv
                            replace s1 := s1.below b2
                            have E2 := E1.below b2
                            clear E1 o2 b2 HA
                            go_wp2_with fail
                            refine (HPO.out _ E2 p hp4).mono ?_
                            rintro e v3 ⟨D3, n3, rfl, o3, b3⟩
                            have s3 := o3.sv
                            replace s1 := s1.below b3
                            replace s2 := s2.below b3
                            have E3 := E2.below b3
                            clear E2 o3 b3 HPO
                            go_wp2_with fail
                            refine (HI.out _ E3).mono ?_
                            rintro e v' ⟨rfl, rfl⟩
                            clear HI
                            go_wp2_with fail
                            refine (HNW.out _ E3).mono ?_
                            rintro e v4 ⟨bm, nn, A4, ca4, O4, co4, A5, c5, rfl, mv, hnl, hms, o5, b4⟩
                            have al := (Below.refl v4.heap.size v4).alloc (Nat.le_refl _) (.cells #[.slice A4 mcs.length ca4, .slice O4 mos.length co4] 34)
                            have xb := Box.new v4 34 #[.slice A4 mcs.length ca4, .slice O4 mos.length co4]
                            have b4' := b4.trans (al.mono b4.size)
                            replace s1 := s1.below b4'
                            replace s2 := s2.below b4'
                            replace s3 := s3.below b4'
                            have s5 := o5.vs.below al
                            replace mv := mv.below al
                            have E4 := E3.below b4'
                            clear E3 o5 b4 b4' al HNW
                            go_wp2_with fail
                            generalize v4.heap.size = gx at xb ⊢
                            generalize v4.alloc _ = u4 at xb s1 s2 s3 s5 mv E4 ⊢
                            refine (bequal_same D1 A5 n1 c5 rbs u4 s1 s5 (by omega)).mono ?_
                            rintro e u5 ⟨rfl, b5⟩
                            replace s2 := s2.below b5
                            replace s3 := s3.below b5
                            replace mv := mv.below b5
                            replace xb := xb.below b5
                            have E5 := E4.below b5
                            clear E4 b5 s1 s5
                            go_wp2_with fail
                            refine (list_mv bm nn _ rl u5 mv (by omega) hokl rfl).mono ?_
                            rintro e u6 ⟨D6, n6, rfl, s6, b6⟩
                            replace s2 := s2.below b6
                            replace s3 := s3.below b6
                            replace mv := mv.below b6
                            replace xb := xb.below b6
                            have E6 := E5.below b6
                            clear E5 b6
                            go_wp2_with fail
                            refine (equal_same D2 D6 n2 n6 rl u6 s2.ps s6.ps (by omega)).mono ?_
                            rintro e u7 ⟨rfl, b7⟩
                            replace s3 := s3.below b7
                            replace mv := mv.below b7
                            replace xb := xb.below b7
                            have E7 := E6.below b7
                            have x0 := xb.cell 0 (v := .slice A4 mcs.length ca4) rfl
                            have x1 := xb.cell 1 (v := .slice O4 mos.length co4) rfl
                            have HOW := hideP (rowned_any ⟨A4, ca4, mcs, O4, co4, mos⟩ bm nn (valOf rl) (p : Int) u7 mv (by omega) (hms.below E7.be) hokm)
                            simp only at HOW
                            clear E6 b7 s2 s6 mv xb
                            have HPVV := hideP (HPV.out p)
                            have hpl := HPL.out p
                            clear HPV HPL
                            generalize ptL mcs mos (p : Int) rl = pt at HPVV hpl s3 ⊢
                            go_wp2_with fail
                            refine HOW.out.mono ?_
                            clear HOW x0 x1
                            rintro e u8 ⟨bo, rfl, mo, b8⟩
                            replace s3 := s3.below b8
                            have E8 := E7.below b8
                            clear E7 b8
                            go_wp2_with fail
                            refine (list_mv bo nn _ pt u8 mo (by omega) HPVV.out.2 HPVV.out.1).mono ?_
                            rintro e u9 ⟨D9, n9, rfl, s9, b9⟩
                            replace s3 := s3.below b9
                            have E9 := E8.below b9
                            clear E8 b9 mo
                            go_wp2_with fail
                            refine (equal_same D3 D9 n3 n9 pt u9 s3.ps s9.ps (by omega)).mono ?_
                            rintro e u10 ⟨rfl, b10⟩
                            have E10 := E9.below b10
                            clear E9 b10 s3 s9
                            go_wp2_with fail
                            go_roundw
                            case rel => exact ⟨k + 1, by omega, by go_num, E10⟩
                            case measure => simp [intOf]; omega
                        · as_aux_lemma =>
                            have HPB := hideP (fun (W : World) (hW : CyE w Br g gc gr m l n c d W) => HPA.out W hW (by omega))
                            have dm : decide (y2 < 0) = true ∨ decide (y2 < 0) = false ∧ decide (3 < y2) = true := by
                              by_cases e : y2 < 0
                              · exact .inl (decide_eq_true e)
                              · exact .inr ⟨decide_eq_false e, decide_eq_true (by omega)⟩
                            go_wp2_with fail
                            refine (HD.out _ hE).mono ?_
                            rintro e v1 ⟨D1, n1, rfl, o1, b1⟩
                            have s1 := o1.vs
                            have E1 := hE.below b1
                            clear hE o1 b1 HD
                            go_wp2_with fail
                            refine (HA.out _ E1).mono ?_
                            rintro e v2 ⟨D2, n2, rfl, o2, b2⟩
                            have s2 := o2.sv
                            replace s1 := s1.below b2
                            have E2 := E1.below b2
                            clear E1 o2 b2 HA
                            go_wp2_with fail
                            refine (HPB.out _ E2).mono ?_
                            rintro e v' ⟨rfl, rfl⟩
                            clear HPB HPA HPO
                            go_wp2_with fail
                            refine (HI.out _ E2).mono ?_
                            rintro e v' ⟨rfl, rfl⟩
                            clear HI
                            go_wp2_with fail
                            refine (HNW.out _ E2).mono ?_
                            rintro e v4 ⟨bm, nn, A4, ca4, O4, co4, A5, c5, rfl, mv, hnl, hms, o5, b4⟩
                            have al := (Below.refl v4.heap.size v4).alloc (Nat.le_refl _) (.cells #[.slice A4 mcs.length ca4, .slice O4 mos.length co4] 34)
                            have b4' := b4.trans (al.mono b4.size)
                            replace s1 := s1.below b4'
                            replace s2 := s2.below b4'
                            have s5 := o5.vs.below al
                            replace mv := mv.below al
                            have E4 := E2.below b4'
                            clear E2 o5 b4 b4' al HNW hms
                            go_wp2_with fail
                            generalize v4.heap.size = gx
                            generalize v4.alloc _ = u4 at s1 s2 s5 mv E4 ⊢
                            refine (bequal_same D1 A5 n1 c5 rbs u4 s1 s5 (by omega)).mono ?_
                            rintro e u5 ⟨rfl, b5⟩
                            replace s2 := s2.below b5
                            replace mv := mv.below b5
                            have E5 := E4.below b5
                            clear E4 b5 s1 s5
                            go_wp2_with fail
                            refine (list_mv bm nn _ rl u5 mv (by omega) hokl rfl).mono ?_
                            rintro e u6 ⟨D6, n6, rfl, s6, b6⟩
                            replace s2 := s2.below b6
                            have E6 := E5.below b6
                            clear E5 b6 mv
                            go_wp2_with fail
                            refine (equal_same D2 D6 n2 n6 rl u6 s2.ps s6.ps (by omega)).mono ?_
                            rintro e u7 ⟨rfl, b7⟩
                            have E7 := E6.below b7
                            clear E6 b7 s2 s6
                            rcases dm with dm | ⟨dm, dm2⟩
                            all_goals
                              go_wp2_with fail
                              go_roundw
                              case rel => exact ⟨k + 1, by omega, by go_num, E7⟩
                              case measure => simp [intOf]; omega
                      · as_aux_lemma =>
                          have hout : ¬ (0 ≤ (k : Int) ∧ (k : Int) < (c.rs.length : Int)) := by rw [hrl]; omega
                          have HD := hideP (cdone_bad c _ (k : Int) wr hE.co hout)
                          have HA := hideP (call_bad c _ (k : Int) wr hE.co hout)
                          have HP := hideP (cpart_bad c _ (k : Int) y2 wr hE.co hout)
                          have HI := hideP (rcis_any d w Br (k : Int) wr hE.dok hnn)
                          rw [hE.cg] at HD HA HP
                          rw [hE.dg, decide_eq_false (by rw [hE.nn]; omega)] at HI
                          have HE := hideP hE
                          clear hE hout hrl hnn
                          go_wp2_with fail
                          refine HD.out.mono ?_
                          rintro e v' ⟨rfl, rfl⟩
                          clear HD
                          go_wp2_with fail
                          refine HA.out.mono ?_
                          rintro e v' ⟨rfl, rfl⟩
                          clear HA
                          go_wp2_with fail
                          refine HP.out.mono ?_
                          rintro e v' ⟨rfl, rfl⟩
                          clear HP
                          go_wp2_with fail
                          refine HI.out.mono ?_
                          rintro e v' ⟨rfl, rfl⟩
                          clear HI
                          go_wp2_with fail
                          go_roundw
                          case rel => exact ⟨k + 1, by omega, by go_num, HE.out⟩
                          case measure => simp [intOf]; omega
                    · have HE := hideP hE
                      clear hE hrl hnn
                      go_wp2_with fail
                      go_roundw
                      case rel => exact ⟨t + 1, c, d, by omega, by go_num, HE.out⟩
                      case measure => simp [intOf]; omega
          · have hbe := hE.be
            go_wp2_with fail
            go_ret
            exact ⟨rfl, hbe⟩
  · as_aux_lemma =>
      have HCB := hideP (cnew_bad i0 n0 m A1 c1 l w2 (hm.below b2) (hA.below b2).ps hml (by omega) hv)
      generalize hq : cnV i0 n0 m.cs m.os l = q at HCB hv
      clear hm hA h1 h2
      go_wp2_with fail
      refine HCB.out.mono ?_
      clear HCB
      rintro e w3 ⟨rfl, hb3⟩
      have b3 := b2.trans (hb3.mono b2.size)
      have y3 := y2.below hb3
      have z1 := y3.cell 0 (v := .slice m.A m.cs.length m.ca) rfl
      have z2 := y3.cell 1 (v := .slice m.O m.os.length m.co) rfl
      have HM := hideP (HRM.out w3 b3)
      clear hb3 b2 y2 y3 HRM
      go_wp2_with fail
      refine HM.out.mono ?_
      clear HM
      rintro e w4 ⟨rfl, hb4⟩
      have b4 := b3.trans (hb4.mono b3.size)
      have HS := hideP (HRS.out w4 b4)
      have hqe : (i0 < 1 ∨ 4 < i0 ∨ n0 < 1 ∨ 4 < n0) ∧ q = 1 ∨ (¬ i0 < 1 ∧ ¬ 4 < i0 ∧ ¬ n0 < 1 ∧ ¬ 4 < n0) ∧ q = errV m.cs m.os l := by
        unfold cnV at hq
        by_cases e : (1 ≤ i0 ∧ i0 ≤ 4) ∧ (1 ≤ n0 ∧ n0 ≤ 4)
        · rw [if_pos e] at hq; exact .inr ⟨by omega, hq.symm⟩
        · rw [if_neg e] at hq; exact .inl ⟨by omega, hq.symm⟩
      unfold errV at hqe
      have dq : (q != 0) = true := by simp [hv]
      have dqq : (q == q) = true := by simp
      have HQ := hideP hqe
      clear hb4 b3 HRS hq hqe z1 z2
      by_cases hck : chkM m.cs m.os = 0
      · rw [hck] at HQ ⊢
        go_wp2_with fail
        refine HS.out.mono ?_
        clear HS
        rintro e w5 ⟨rfl, hb5⟩
        have b5 := b4.trans (hb5.mono b4.size)
        generalize chk ByteArray.empty l = e0 at HQ ⊢
        have HQ3 := hideP (show (i0 < 1 ∨ 4 < i0 ∨ n0 < 1 ∨ 4 < n0) ∧ q = 1 ∨ (¬ i0 < 1 ∧ ¬ 4 < i0 ∧ ¬ n0 < 1 ∧ ¬ 4 < n0) ∧ q = e0 by
          have := HQ.out
          rw [if_neg (by simp)] at this
          omega)
        clear hb5 b4 HQ
        have HQ := hideP HQ3.out
        clear HQ3
        by_cases a1 : i0 < 1
        · obtain rfl : q = 1 := by have := HQ.out; omega
          go_wp2_with fail
          go_ret
          exact ⟨rfl, b5⟩
        · have d1 : decide (i0 < 1) = false := decide_eq_false a1
          by_cases a2 : 4 < i0
          · obtain rfl : q = 1 := by have := HQ.out; omega
            go_wp2_with fail
            go_ret
            exact ⟨rfl, b5⟩
          · have d2 : decide (4 < i0) = false := decide_eq_false a2
            by_cases a3 : n0 < 1
            · obtain rfl : q = 1 := by have := HQ.out; omega
              go_wp2_with fail
              go_ret
              exact ⟨rfl, b5⟩
            · have d3 : decide (n0 < 1) = false := decide_eq_false a3
              by_cases a4 : 4 < n0
              · obtain rfl : q = 1 := by have := HQ.out; omega
                go_wp2_with fail
                go_ret
                exact ⟨rfl, b5⟩
              · have d4 : decide (4 < n0) = false := decide_eq_false a4
                obtain rfl : q = e0 := by have := HQ.out; rcases this with ⟨h, _⟩ | ⟨_, h⟩ <;> first | omega | simpa using h
                go_wp2_with fail
                go_ret
                exact ⟨rfl, b5⟩
      · have dm : (chkM m.cs m.os == 0) = false := by simp [hck]
        have HQ2 := hideP (show (i0 < 1 ∨ 4 < i0 ∨ n0 < 1 ∨ 4 < n0) ∧ q = 1 ∨ (¬ i0 < 1 ∧ ¬ 4 < i0 ∧ ¬ n0 < 1 ∧ ¬ 4 < n0) ∧ q = chkM m.cs m.os by
          have := HQ.out
          rw [if_pos hck] at this
          omega)
        have b5 := b4
        clear HS HQ b4
        generalize chkM m.cs m.os = e0 at HQ2 dm hck ⊢
        have HQ := hideP HQ2.out
        clear HQ2
        by_cases a1 : i0 < 1
        · obtain rfl : q = 1 := by have := HQ.out; omega
          go_wp2_with fail
          go_ret
          exact ⟨rfl, b5⟩
        · have d1 : decide (i0 < 1) = false := decide_eq_false a1
          by_cases a2 : 4 < i0
          · obtain rfl : q = 1 := by have := HQ.out; omega
            go_wp2_with fail
            go_ret
            exact ⟨rfl, b5⟩
          · have d2 : decide (4 < i0) = false := decide_eq_false a2
            by_cases a3 : n0 < 1
            · obtain rfl : q = 1 := by have := HQ.out; omega
              go_wp2_with fail
              go_ret
              exact ⟨rfl, b5⟩
            · have d3 : decide (n0 < 1) = false := decide_eq_false a3
              by_cases a4 : 4 < n0
              · obtain rfl : q = 1 := by have := HQ.out; omega
                go_wp2_with fail
                go_ret
                exact ⟨rfl, b5⟩
              · have d4 : decide (4 < n0) = false := decide_eq_false a4
                obtain rfl : q = e0 := by have := HQ.out; rcases this with ⟨h, _⟩ | ⟨_, h⟩ <;> first | omega | simpa using h
                go_wp2_with fail
                go_ret
                exact ⟨rfl, b5⟩
end Go.Proofs.YtefdipjhjgmokaaGreatDoor
