/-
  rolaw.DeedSays: the law answers true.
-/
import Derived.Test.YtkikhananegclaaDoorRClash
import Derived.Test.YtkikhananegclaaDoorRDeed
import Derived.Test.YtkikhananegclaaDoorBox
import Derived.Deep.RegionHeld3
set_option linter.unusedVariables false
set_option linter.unusedSimpArgs false
namespace Go.Proofs.YtkikhananegclaaDoor
open Go.RowKit

set_option maxHeartbeats 400000 in
set_option maxRecDepth 100000 in
theorem sequal_same (A1 A2 : Option Addr) (c1 c2 : Nat) (l : List ByteArray) (w : World) (h1 : VS w A1 (l.map Value.string)) (h2 : VS w A2 (l.map Value.string)) (hl : l.length < 4611686018427387904) :
    Calls Tryd.prog 10 #[.slice A1 l.length c1, .slice A2 l.length c2] w fun e w' => e = .returned (.bool true) ∧ Below w.heap.size w w' := by
  have d0 : ((l.length : Int) != (l.length : Int)) = false := by simp
  go_enter Tryd.func10, Tryd.ntmps10
  go_wp2_with fail
  go_loopw [13] (fun i wr => ∃ k : Nat, k ≤ l.length ∧ i = .int .i64 k ∧ Below w.heap.size w wr) (fun i _ => l.length - (intOf i).toNat)
  case atStart => exact ⟨0, Nat.zero_le _, rfl, Below.refl _ _⟩
  case round =>
    obtain ⟨k, hk, rfl, hb⟩ := hrel
    by_cases hlt : k < l.length
    · obtain ⟨b, o, rfl, hbl, q1⟩ := h1.below hb k (.string l[k]) (by simp [hlt])
      obtain ⟨b', o', rfl, hbl', q2⟩ := h2.below hb k (.string l[k]) (by simp [hlt])
      clear h1 h2
      generalize l[k] = p at q1 q2
      have g1 : (0 : Int) ≤ (k : Int) := by omega
      have g2 : (k : Int) < (l.length : Int) := by omega
      have dp : (p.toList == p.toList) = true := by simp
      go_wp2_with fail
      go_quiet (fail)
      go_wp2_with fail
      go_roundw
      case rel => exact ⟨k + 1, by omega, by go_num, ⟨hb.os, hb.tape, hb.output, hb.size, hb.block⟩⟩
      case measure => simp [intOf]; omega
    · go_wp2_with fail
      go_ret
      exact ⟨rfl, hb⟩
/-- the two transactions at hand -/
structure AB (w0 : World) (g h : Nat) (D1 D2 : Option Addr) (k1 k2 : Nat) (a b : List Opr) (w : World) : Prop where
  b1 : Box w g 24 #[.slice D1 a.length k1]
  b2 : Box w h 24 #[.slice D2 b.length k2]
  o1 : OS w w.heap.size D1 a
  o2 : OS w w.heap.size D2 b
  be : Below w0.heap.size w0 w
theorem AB.below {w0 : World} {g h : Nat} {D1 D2 : Option Addr} {k1 k2 : Nat} {a b : List Opr} {w w' : World} (k : AB w0 g h D1 D2 k1 k2 a b w) (hb : Below w.heap.size w w') : AB w0 g h D1 D2 k1 k2 a b w' :=
  ⟨k.b1.below hb, k.b2.below hb, k.o1.go hb, k.o2.go hb, k.be.trans (hb.mono k.be.size)⟩
theorem AB.c {w0 : World} {g h : Nat} {D1 D2 : Option Addr} {k1 k2 : Nat} {a b : List Opr} {w : World} (k : AB w0 g h D1 D2 k1 k2 a b w) : w.cell? ⟨g, 0, none⟩ = some (.slice D1 a.length k1) ∧ w.cell? ⟨h, 0, none⟩ = some (.slice D2 b.length k2) := ⟨k.b1.cell 0 rfl, k.b2.cell 0 rfl⟩
theorem AB.new (w : World) (D1 D2 : Option Addr) (k1 k2 : Nat) (a b : List Opr) (ha : OS w w.heap.size D1 a) (hb : OS w w.heap.size D2 b) : AB w w.heap.size (w.heap.size + 1) D1 D2 k1 k2 a b ((w.alloc (.cells #[.slice D1 a.length k1] 24)).alloc (.cells #[.slice D2 b.length k2] 24)) := by
  have h0 := ((Below.refl w.heap.size w).alloc (Nat.le_refl _) (.cells #[.slice D1 a.length k1] 24)).alloc (by simp) (.cells #[.slice D2 b.length k2] 24)
  refine ⟨(Box.new w _ _).alloc _, ?_, ha.go h0, hb.go h0, h0⟩
  have := Box.new (w.alloc (.cells #[.slice D1 a.length k1] 24)) 24 #[.slice D2 b.length k2]
  rw [World.size_alloc] at this
  exact this

set_option maxHeartbeats 2000000 in
set_option maxRecDepth 100000 in
theorem dsays_bad (D1 D2 : Option Addr) (k1 k2 : Nat) (a b : List Opr) (w : World) (ha : OS w w.heap.size D1 a) (hb : OS w w.heap.size D2 b) (ca : chkD a ≠ 0) :
    Calls Tryd.prog 3 #[.agg #[.slice D1 a.length k1], .agg #[.slice D2 b.length k2]] w fun e w' => e = .returned (.bool true) ∧ Below w.heap.size w w' := by
  have hH := AB.new w D1 D2 k1 k2 a b ha hb
  have hcl : chkD2 a b = chkD a := by simp [chkD2, ca]
  have h2 := fun W (h1 : OS W W.heap.size D1 a) (h2 : OS W W.heap.size D2 b) => clash_bad D1 D2 k1 k2 a b W h1 h2 (by rw [hcl]; exact ca)
  rw [hcl] at h2
  have h1 := fun W (h1 : OS W W.heap.size D1 a) => keys_bad D1 k1 a W h1 ca
  have h3 := fun W (h1 : OS W W.heap.size D1 a) => rdeed_any D1 k1 a W h1
  have h4 := fun W (h1 : OS W W.heap.size D1 a) => dcheck_any D1 k1 a W h1
  have h5 := fun W => dcheck_any none 0 [] W OS.nil
  rw [show chkD [] = 2 from rfl] at h5
  have d0 : (chkD a != 0) = true := by simp [ca]
  have d0' : (chkD a == 0) = false := by simp [ca]
  clear hcl ca ha hb
  generalize chkD a = q at h1 h2 h3 h4 d0 d0'
  have dq : (q != q) = false := by simp
  have dq' : (q == q) = true := by simp
  have H1 := hideP h1
  have H2 := hideP h2
  have H3 := hideP h3
  have H4 := hideP h4
  have H5 := hideP h5
  clear h1 h2 h3 h4 h5
  go_enter Tryd.func3, Tryd.ntmps3
  go_wp2_with fail
  generalize (w.alloc (.cells #[.slice D1 a.length k1] 24)).alloc (.cells #[.slice D2 b.length k2] 24) = w0 at hH ⊢
  refine (H1.out _ hH.o1).mono ?_
  rintro e w1 ⟨rfl, hb1⟩
  replace hH := hH.below hb1
  obtain ⟨z1, z2⟩ := hH.c
  clear hb1
  go_wp2_with fail
  refine (H2.out _ hH.o1 hH.o2).mono ?_
  rintro e w2 ⟨rfl, hb2⟩
  replace hH := hH.below hb2
  clear hb2 z1 z2
  obtain ⟨z1, z2⟩ := hH.c
  go_wp2_with fail
  replace hH := hH.below (Below.refl _ _).drew
  clear z1 z2
  go_region_held3 (fun w' => w'.cell? ⟨w.heap.size, 0, none⟩ = some (.slice D1 a.length k1)) (with_reducible exact hH.c.1) (first
    | (go_at_call 7; refine (H3.out _ hH.o1).mono ?_; rintro e wn ⟨rfl, hbn⟩; replace hH := hH.below hbn; clear hbn))
  obtain ⟨z1, z2⟩ := hH.c
  go_wp2_with fail
  refine (H4.out _ hH.o1).mono ?_
  rintro e w5 ⟨rfl, hb5⟩
  replace hH := hH.below hb5
  clear hb5 z1 z2
  obtain ⟨z1, z2⟩ := hH.c
  go_wp2_with fail
  refine (H5.out _).mono ?_
  rintro e w6 ⟨rfl, hb6⟩
  replace hH := hH.below hb6
  have hbe := hH.be
  go_wp2_with fail
  go_ret
  exact ⟨rfl, hbe⟩

set_option maxHeartbeats 2000000 in
set_option maxRecDepth 100000 in
theorem dsays_good (D1 D2 : Option Addr) (k1 k2 : Nat) (a b : List Opr) (w : World) (ha : OS w w.heap.size D1 a) (hb : OS w w.heap.size D2 b) (ca : chkD a = 0) :
    Calls Tryd.prog 3 #[.agg #[.slice D1 a.length k1], .agg #[.slice D2 b.length k2]] w fun e w' => e = .returned (.bool true) ∧ Below w.heap.size w w' := by
  have hH := AB.new w D1 D2 k1 k2 a b ha hb
  have h2 : ∀ W, OS W W.heap.size D1 a → OS W W.heap.size D2 b → Calls Tryd.prog 6 #[.agg #[.slice D1 a.length k1], .agg #[.slice D2 b.length k2]] W fun e w' => e = .returned (.tuple #[.bool (if chkD b = 0 then clB a b else false), .int .i64 (chkD b)]) ∧ Below W.heap.size W w' := fun W h1 h2 => by
    by_cases cb : chkD b = 0
    · rw [if_pos cb, cb]; exact clash_ok D1 D2 k1 k2 a b W h1 h2 ca cb
    · have := clash_bad D1 D2 k1 k2 a b W h1 h2 (by simp [chkD2, ca, cb])
      rw [show chkD2 a b = chkD b by simp [chkD2, ca]] at this
      rw [if_neg cb]; exact this
  obtain ⟨ic, hic⟩ : ∃ ic, ic = (if chkD b = 0 then clB a b else false) := ⟨_, rfl⟩
  rw [← hic] at h2
  have HIC := hideP hic
  clear hic
  have h3 := fun W (h1 : OS W W.heap.size D1 a) => rdeed_any D1 k1 a W h1
  have h4 := fun W (h1 : OS W W.heap.size D1 a) => dcheck_any D1 k1 a W h1
  have h5 := fun W => dcheck_any none 0 [] W OS.nil
  have h6 := fun W (h1 : OS W W.heap.size D2 b) => rdeed_any D2 k2 b W h1
  rw [show chkD [] = 2 from rfl] at h5
  rw [ca] at h3 h4
  have hrl : (keysOf (rdL a)).length ≤ 16 := by have := keysOf_len (rdL a); have := rdL_len a; have := (chkD_zero.1 ca).2.1; omega
  have hwl : (keysOf (wrL a)).length ≤ 16 := by have := keysOf_len (wrL a); have := wrL_len a; have := (chkD_zero.1 ca).2.1; omega
  have H2 := hideP h2
  have H3 := hideP h3
  have H4 := hideP h4
  have H5 := hideP h5
  have H6 := hideP h6
  clear h2 h3 h4 h5 h6 ha hb
  go_enter Tryd.func3, Tryd.ntmps3
  go_wp2_with fail
  generalize (w.alloc (.cells #[.slice D1 a.length k1] 24)).alloc (.cells #[.slice D2 b.length k2] 24) = w0 at hH ⊢
  refine (keys_ok D1 k1 a _ hH.o1 ca).mono ?_
  rintro e w1 ⟨A1, c1, A2, c2, rfl, hT, hb1⟩
  replace hH := hH.below hb1
  obtain ⟨z1, z2⟩ := hH.c
  have v1 := hT.o1.vs
  have v2 := hT.o2.vs
  clear hb1 hT
  go_wp2_with fail
  refine (H2.out _ hH.o1 hH.o2).mono ?_
  rintro e w2 ⟨rfl, hb2⟩
  replace hH := hH.below hb2
  replace v1 := v1.below hb2
  replace v2 := v2.below hb2
  clear hb2 z1 z2
  obtain ⟨z1, z2⟩ := hH.c
  go_wp2_with fail
  replace hH := hH.below (Below.refl _ _).drew
  replace v1 := v1.below (Below.refl _ _).drew
  replace v2 := v2.below (Below.refl _ _).drew
  clear z1 z2
  go_region_held3 (fun w' => w'.cell? ⟨w.heap.size, 0, none⟩ = some (.slice D1 a.length k1)) (with_reducible exact hH.c.1) (first
    | (go_at_call 7; refine (H3.out _ hH.o1).mono ?_; rintro e wn ⟨rfl, hbn⟩; replace hH := hH.below hbn; replace v1 := v1.below hbn; replace v2 := v2.below hbn; clear hbn))
  obtain ⟨z1, z2⟩ := hH.c
  go_wp2_with fail
  refine (H4.out _ hH.o1).mono ?_
  rintro e w5 ⟨rfl, hb5⟩
  replace hH := hH.below hb5
  replace v1 := v1.below hb5
  replace v2 := v2.below hb5
  clear hb5 z1 z2
  obtain ⟨z1, z2⟩ := hH.c
  go_wp2_with fail
  refine (H5.out _).mono ?_
  rintro e w6 ⟨rfl, hb6⟩
  replace hH := hH.below hb6
  replace v1 := v1.below hb6
  replace v2 := v2.below hb6
  clear hb6 z1 z2
  obtain ⟨z1, z2⟩ := hH.c
  go_wp2_with fail
  refine (H6.out _ hH.o2).mono ?_
  rintro e w7 ⟨rfl, hb7⟩
  replace hH := hH.below hb7
  replace v1 := v1.below hb7
  replace v2 := v2.below hb7
  clear hb7 z1 z2
  obtain ⟨z1, z2⟩ := hH.c
  have dn : ∀ q : Int, (q != q) = false := fun q => by simp
  have dn' : ∀ q : Int, (q == q) = true := fun q => by simp
  go_wp2_with fail
  refine (touches_any D1 k1 a _ hH.o1 ca).mono ?_
  rintro e w8 ⟨m1, m2, n, E1, E2, rfl, hS, hn, hb8⟩
  replace hH := hH.below hb8
  replace v1 := v1.below hb8
  replace v2 := v2.below hb8
  clear hb8 z1 z2
  obtain ⟨z1, z2⟩ := hH.c
  go_wp2_with fail
  refine (names_any m1 n E1 (rdL a) _ hS.m1 hS.k1 (by omega)).mono ?_
  rintro e w9 ⟨A3, c3, rfl, hO3, hb9⟩
  replace hH := hH.below hb9
  replace v1 := v1.below hb9
  replace v2 := v2.below hb9
  replace hS := hS.below hb9
  have v3 := hO3.vs
  clear hb9 z1 z2 hO3
  obtain ⟨z1, z2⟩ := hH.c
  go_wp2_with fail
  refine (sequal_same _ _ _ _ (keysOf (rdL a)) _ v1 v3 (by omega)).mono ?_
  rintro e w10 ⟨rfl, hb10⟩
  replace hH := hH.below hb10
  replace v2 := v2.below hb10
  replace hS := hS.below hb10
  clear hb10 z1 z2 v1 v3
  obtain ⟨z1, z2⟩ := hH.c
  go_wp2_with fail
  refine (names_any m2 n E2 (wrL a) _ hS.m2 hS.k2 (by omega)).mono ?_
  rintro e w11 ⟨A4, c4, rfl, hO4, hb11⟩
  replace hH := hH.below hb11
  replace v2 := v2.below hb11
  have v4 := hO4.vs
  clear hb11 z1 z2 hO4 hS
  obtain ⟨z1, z2⟩ := hH.c
  go_wp2_with fail
  refine (sequal_same _ _ _ _ (keysOf (wrL a)) _ v2 v4 (by omega)).mono ?_
  rintro e w12 ⟨rfl, hb12⟩
  replace hH := hH.below hb12
  clear hb12 z1 z2 v2 v4
  obtain ⟨z1, z2⟩ := hH.c
  by_cases cb : chkD b = 0
  · obtain rfl : ic = clB a b := by rw [HIC.out, if_pos cb]
    rw [cb]
    go_wp2_with fail
    refine (rclash_any D1 D2 k1 k2 a b _ hH.o1 hH.o2 ca cb).mono ?_
    rintro e w13 ⟨rfl, hb13⟩
    replace hH := hH.below hb13
    have hbe := hH.be
    have dc : (clB a b == clB a b) = true := by simp
    go_wp2_with fail
    go_ret
    exact ⟨rfl, hbe⟩
  · obtain rfl : ic = false := by rw [HIC.out, if_neg cb]
    have hbe := hH.be
    have d0 : (chkD b != 0) = true := by simp [cb]
    have d1 := dn' (chkD b)
    clear cb
    generalize chkD b = q at d0 d1 ⊢
    go_wp2_with fail
    go_ret
    exact ⟨rfl, hbe⟩
theorem dsays_any (D1 D2 : Option Addr) (k1 k2 : Nat) (a b : List Opr) (w : World) (ha : OS w w.heap.size D1 a) (hb : OS w w.heap.size D2 b) :
    Calls Tryd.prog 3 #[.agg #[.slice D1 a.length k1], .agg #[.slice D2 b.length k2]] w fun e w' => e = .returned (.bool true) ∧ Below w.heap.size w w' := by
  by_cases ca : chkD a = 0
  · exact dsays_good D1 D2 k1 k2 a b w ha hb ca
  · exact dsays_bad D1 D2 k1 k2 a b w ha hb ca
end Go.Proofs.YtkikhananegclaaDoor
