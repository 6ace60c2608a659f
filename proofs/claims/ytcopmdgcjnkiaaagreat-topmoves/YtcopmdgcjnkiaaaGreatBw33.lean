/-
  parts.divide.
  deed.put, deed.get, deed.move and deed.step.
  The cells of an operation that was handed over (no program in it).
-/
import Derived.Test.YtcopmdgcjnkiaaaGreatBw21
import Derived.Test.YtcopmdgcjnkiaaaGreatBw32
import Derived.Test.YtcopmdgcjnkiaaaGreatBw7
import Derived.Deep.RegionHeld3
import Derived.Test.YtcopmdgcjnkiaaaGreatBw1
import Derived.OwnWalk
set_option linter.unusedVariables false
set_option linter.unusedSimpArgs false
namespace Go.Proofs.YtcopmdgcjnkiaaaGreat
open Go.RowKit

/-- while the parts are made -/
structure DvH (w : World) (g : Nat) (m : Mp) (l : List Pr) (q : Dv) (k : Nat) (wr : World) : Prop where
  mh : MH w g m wr
  res : Box wr (g + 1) 122 #[.slice none 0 0, .slice none 0 0, .slice none 0 0, .slice none 0 0]
  box : Box wr (g + 2) 122 (q.up m.cs m.os l k)
  own : q.Own wr w.heap.size m.cs m.os l k
  low : w.heap.size ≤ g
section
variable {w wr w' : World} {g k : Nat} {m : Mp} {l : List Pr} {q : Dv}
theorem DvH.below (h : DvH w g m l q k wr) (hb : Below wr.heap.size wr w') : DvH w g m l q k w' := ⟨h.mh.below hb, h.res.below hb, h.box.below hb, h.own.below hb, h.low⟩
theorem DvH.step (h : DvH w g m l q k wr) (hm : MS w m) (hk : k < 4) {A : Option Addr} {c : Nat} (hov : OV wr w.heap.size A c (ptL m.cs m.os (k : Int) l)) : DvH w g m l (q.put k A c) (k + 1) (wr.setCell ⟨g + 2, k, none⟩ (.slice A (ptL m.cs m.os (k : Int) l).length c)) := by
  have hb := below_set (i := k) (v := .slice A (ptL m.cs m.os (k : Int) l).length c) h.mh.be (show w.heap.size ≤ g + 2 by have := h.low; omega)
  refine ⟨⟨h.mh.x0.other (by show g + 2 ≠ g; omega) _, hm.below hb, hb⟩, h.res.other (by show g + 2 ≠ g + 1; omega) _, ?_, (h.own.put hov).kept h.box.ty (by decide) (grown_set _ _ _ _), h.low⟩
  have := h.box.set k (.slice A (ptL m.cs m.os (k : Int) l).length c)
  rw [Dv.up_put hk] at this
  exact this
end
def DvI (w : World) (g : Nat) (m : Mp) (l : List Pr) (i : Value) (wr : World) : Prop := ∃ (k : Nat) (q : Dv), k ≤ 4 ∧ i = .int .i64 k ∧ DvH w g m l q k wr

set_option maxHeartbeats 1000000 in
set_option maxRecDepth 100000 in
theorem divide_ok (m : Mp) (A : Option Addr) (c : Nat) (l : List Pr) (w : World) (hm : MS w m) (hA : PS w w.heap.size A l) (hok : OkM m.cs m.os) (hokl : Ok l) :
    Calls Tryz.prog 55 #[.agg #[.slice m.A m.cs.length m.ca, .slice m.O m.os.length m.co], .slice A l.length c] w
      fun e w' => ∃ q : Dv, e = .returned (.tuple #[.agg (q.ar m.cs m.os l), .int .i64 0]) ∧ q.Own w' w.heap.size m.cs m.os l 4 ∧ Below w.heap.size w w' := by
  have hsm := hokl.small
  have b1 := (Below.refl w.heap.size w).alloc (Nat.le_refl _) (.cells #[.slice m.A m.cs.length m.ca, .slice m.O m.os.length m.co] 31)
  have hH := ((MH.new hm).alloc (o := .cells #[.slice none 0 0, .slice none 0 0, .slice none 0 0, .slice none 0 0] 122)).alloc (o := .cells #[.slice none 0 0, .slice none 0 0, .slice none 0 0, .slice none 0 0] 122)
  have x1 := (Box.new (w.alloc (.cells #[.slice m.A m.cs.length m.ca, .slice m.O m.os.length m.co] 31)) 122 #[.slice none 0 0, .slice none 0 0, .slice none 0 0, .slice none 0 0]).alloc (.cells #[.slice none 0 0, .slice none 0 0, .slice none 0 0, .slice none 0 0] 122)
  have x2 := Box.new ((w.alloc (.cells #[.slice m.A m.cs.length m.ca, .slice m.O m.os.length m.co] 31)).alloc (.cells #[.slice none 0 0, .slice none 0 0, .slice none 0 0, .slice none 0 0] 122)) 122 #[.slice none 0 0, .slice none 0 0, .slice none 0 0, .slice none 0 0]
  simp only [World.size_alloc] at x1 x2
  have hD : DvH w w.heap.size m l noD 0 _ := ⟨hH, x1, x2, fun j hj => absurd hj (by omega), Nat.le_refl _⟩
  clear x1 x2 b1 hH
  go_enter Tryz.func55, Tryz.ntmps55
  go_wp2_with fail
  generalize ((w.alloc _).alloc _).alloc _ = w1 at hD ⊢
  generalize hg : w.heap.size = g at hD ⊢
  go_loopw [10] (DvI w g m l) (fun i _ => 4 - (intOf i).toNat)
  case atStart => exact ⟨0, noD, by omega, rfl, hD⟩
  case round =>
    obtain ⟨k, q, hk, rfl, h⟩ := hrel
    clear hD
    by_cases hlt : k < 4
    · have g1 : (k : Int) < 4 := by omega
      have g2 : (0 : Int) ≤ (k : Int) := by omega
      obtain ⟨z1, z2⟩ := h.mh.c
      have HPT := hideP (shpart_any m A c l (k : Int) wr h.mh.ms ((hA.below h.mh.be).more h.mh.be.size) hok.l2 (by omega))
      rw [partV_ok (chkM_ok.2 hok) (chk_ok.2 hokl) (ownB_iff.2 (by omega))] at HPT
      go_wp2_with fail
      refine HPT.out.mono ?_
      rintro e w2 ⟨Ap, cp, rfl, hov, hb2⟩
      simp only at hov ⊢
      have hbe := h.mh.be.size
      replace h := h.below hb2
      have f1 := h.box.frozen k
      have c1 := h.box.cell k (Dv.up_at hlt hlt)
      clear hb2 z1 z2 HPT
      have HN := hideP (h.step hm hlt (hov.mono hbe))
      clear hov
      go_wp2_with fail
      go_roundw
      case rel => exact ⟨k + 1, q.put k Ap cp, by omega, by go_num, HN.out⟩
      case measure => simp [intOf]; omega
    · have hk4 : k = 4 := by omega
      have h4 : DvH w g m l q 4 wr := hk4 ▸ h
      clear h hk4
      have y0 := h4.box.cell 0 (v := q.s m.cs m.os l 0) rfl
      have y1 := h4.box.cell 1 (v := q.s m.cs m.os l 1) rfl
      have y2 := h4.box.cell 2 (v := q.s m.cs m.os l 2) rfl
      have y3 := h4.box.cell 3 (v := q.s m.cs m.os l 3) rfl
      have o := h4.res
      have HN := hideP (fun (xs : List (Nat × Value)) => show q.Own (xs.foldl (fun w x => w.setCell ⟨g + 1, x.1, none⟩ x.2) wr) w.heap.size m.cs m.os l 4 ∧ Below w.heap.size w (xs.foldl (fun w x => w.setCell ⟨g + 1, x.1, none⟩ x.2) wr) from
        ⟨h4.own.kept h4.res.ty (by decide) (grown_box xs), Below.kept h4.mh.be (by have := h4.low; omega) (grown_box xs)⟩)
      clear hm hA h4
      have HA := hideP (show #[q.s m.cs m.os l 0, q.s m.cs m.os l 1, q.s m.cs m.os l 2, q.s m.cs m.os l 3] = q.ar m.cs m.os l from rfl)
      have HL := hideP (HN.out [(0, q.s m.cs m.os l 0), (1, q.s m.cs m.os l 1), (2, q.s m.cs m.os l 2), (3, q.s m.cs m.os l 3)])
      simp only [List.foldl] at HL
      obtain ⟨a0, n0, c0, e0⟩ : ∃ a n c, q.s m.cs m.os l 0 = .slice a n c := ⟨_, _, _, rfl⟩
      rw [e0] at y0 HA HL
      obtain ⟨a1, n1, c1, e1⟩ : ∃ a n c, q.s m.cs m.os l 1 = .slice a n c := ⟨_, _, _, rfl⟩
      rw [e1] at y1 HA HL
      obtain ⟨a2, n2, c2, e2⟩ : ∃ a n c, q.s m.cs m.os l 2 = .slice a n c := ⟨_, _, _, rfl⟩
      rw [e2] at y2 HA HL
      obtain ⟨a3, n3, c3, e3⟩ : ∃ a n c, q.s m.cs m.os l 3 = .slice a n c := ⟨_, _, _, rfl⟩
      rw [e3] at y3 HA HL
      have o1 := o.set 0 (.slice a0 n0 c0)
      have o2 := o1.set 1 (.slice a1 n1 c1)
      have o3 := o2.set 2 (.slice a2 n2 c2)
      have o4 := o3.set 3 (.slice a3 n3 c3)
      have f0 := o.frozen 0
      have f1 := o1.frozen 1
      have f2 := o2.frozen 2
      have f3 := o3.frozen 3
      have d0 := o.cell 0 (v := .slice none 0 0) rfl
      have d1 := o1.cell 1 (v := .slice none 0 0) rfl
      have d2 := o2.cell 2 (v := .slice none 0 0) rfl
      have d3 := o3.cell 3 (v := .slice none 0 0) rfl
      have q0 := o4.cell 0 (v := .slice a0 n0 c0) rfl
      have q1 := o4.cell 1 (v := .slice a1 n1 c1) rfl
      have q2 := o4.cell 2 (v := .slice a2 n2 c2) rfl
      have q3 := o4.cell 3 (v := .slice a3 n3 c3) rfl
      clear o o1 o2 o3 o4 HN e0 e1 e2 e3
      go_wp2_with fail
      exact bodyPost_ret (v := .tuple #[.agg #[.slice a0 n0 c0, .slice a1 n1 c1, .slice a2 n2 c2, .slice a3 n3 c3], .int .i64 0]) (by simp [results, Tryz.results55, go_sem, q0, q1, q2, q3]) rfl ⟨q, by rw [HA.out], HL.out⟩
/-- the four slices, each spelt out -/
def Dv4 (q : Dv) (cs : List ByteArray) (os : List Int) (l : List Pr) (v0 v1 v2 v3 : Value) : Prop := q.s cs os l 0 = v0 ∧ q.s cs os l 1 = v1 ∧ q.s cs os l 2 = v2 ∧ q.s cs os l 3 = v3
def RetDv (w : World) (cs : List ByteArray) (os : List Int) (l : List Pr) (e : Ending) (w' : World) : Prop :=
  ∃ (q : Dv) (a0 a1 a2 a3 : Option Addr) (n0 n1 n2 n3 c0 c1 c2 c3 : Nat), e = .returned (.tuple #[.agg #[.slice a0 n0 c0, .slice a1 n1 c1, .slice a2 n2 c2, .slice a3 n3 c3], .int .i64 0]) ∧ Dv4 q cs os l (.slice a0 n0 c0) (.slice a1 n1 c1) (.slice a2 n2 c2) (.slice a3 n3 c3) ∧ q.Own w' w.heap.size cs os l 4 ∧ Below w.heap.size w w'
theorem divide_4 (m : Mp) (A : Option Addr) (c : Nat) (l : List Pr) (w : World) (hm : MS w m) (hA : PS w w.heap.size A l) (hok : OkM m.cs m.os) (hokl : Ok l) :
    Calls Tryz.prog 55 #[.agg #[.slice m.A m.cs.length m.ca, .slice m.O m.os.length m.co], .slice A l.length c] w (RetDv w m.cs m.os l) := by
  refine (divide_ok m A c l w hm hA hok hokl).mono ?_
  rintro e w' ⟨q, rfl, h1, h2⟩
  exact ⟨q, _, _, _, _, _, _, _, _, _, _, _, _, rfl, ⟨rfl, rfl, rfl, rfl⟩, h1, h2⟩
end Go.Proofs.YtcopmdgcjnkiaaaGreat

set_option linter.unusedVariables false
set_option linter.unusedSimpArgs false
namespace Go.Proofs.YtcopmdgcjnkiaaaGreat
open Go.RowKit

/-- what a step hands back: the new store in memory from block B on, and true; or false -/
def RetD (w : World) (B : Nat) (r : Option VF) (e : Ending) (w' : World) : Prop :=
  ∃ A c l ok, e = .returned (.tuple #[.slice A (l : List Pr).length c, .bool ok]) ∧ (match r with | some v => ok = true ∧ OV w' B A c l ∧ Ok l ∧ valOf l = v | none => ok = false) ∧ Below w.heap.size w w'

set_option maxHeartbeats 400000 in
set_option maxRecDepth 100000 in
theorem dget_any (A : Option Addr) (c : Nat) (l : List Pr) (key : ByteArray) (w : World) (hA : SV w A c l) (h : Ok l) (hk : keyB key = true) :
    Calls Tryz.prog 76 #[.slice A l.length c, .string key] w fun e w' => e = .returned (.int .i64 (valOf l key)) ∧ Below w.heap.size w w' := by
  go_enter Tryz.func76, Tryz.ntmps76
  go_wp2_with fail
  refine (get_ok A c l key _ hA (by have := h.small; omega) h hk).mono ?_
  rintro e w' ⟨rfl, hb⟩
  go_wp2_with fail
  go_ret
  exact ⟨rfl, hb⟩

set_option maxHeartbeats 400000 in
set_option maxRecDepth 100000 in
theorem dput_any (A : Option Addr) (c : Nat) (l : List Pr) (key : ByteArray) (n : Int) (w : World) (hA : SV w A c l) (h : Ok l) (hk : keyB key = true) :
    Calls Tryz.prog 75 #[.slice A l.length c, .string key, .int .i64 n] w (RetD w w.heap.size (putV (valOf l) key n)) := by
  cases hn : valB n
  · have HR := hideP (show putV (valOf l) key n = none by simp [putV, hn])
    go_enter Tryz.func75, Tryz.ntmps75
    go_wp2_with fail
    refine (put_nv A c l key n _ hA h hk hn).mono ?_
    rintro e w' ⟨rfl, hb⟩
    go_wp2_with fail
    go_ret2
    refine ⟨none, 0, [], false, rfl, ?_, hb⟩
    rw [HR.out]
  · have HR := hideP (show putV (valOf l) key n = some (upd (valOf l) key n) by simp [putV, hn])
    go_enter Tryz.func75, Tryz.ntmps75
    go_wp2_with fail
    refine (put_st A c l key n _ hA h hk hn).mono ?_
    rintro e w' ⟨A', c', l', rfl, hsv, hok, hv, hb, ho⟩
    have HV := hideP hv
    clear hv hsv
    go_wp2_with fail
    go_ret2
    refine ⟨A', c', l', true, rfl, ?_, hb⟩
    rw [HR.out]
    exact ⟨rfl, ho, hok, HV.out⟩

set_option maxHeartbeats 400000 in
set_option maxRecDepth 100000 in
theorem put_via (A : Option Addr) (c : Nat) (l : List Pr) (key : ByteArray) (n : Int) (w : World) (hA : SV w A c l) (h : Ok l) (hk : keyB key = true) (hn : valB n = true) :
    Calls Tryz.prog 75 #[.slice A l.length c, .string key, .int .i64 n] w fun e w' => ∃ A' c' l', e = .returned (.tuple #[.slice A' (l' : List Pr).length c', .bool true]) ∧ SV w' A' c' l' ∧ Ok l' ∧ valOf l' = upd (valOf l) key n ∧ Below w.heap.size w w' := by
  refine (dput_any A c l key n w hA h hk).mono ?_
  rintro e w' ⟨A', c', l', ok, rfl, hr, hb⟩
  rw [show putV (valOf l) key n = some (upd (valOf l) key n) by simp [putV, hn]] at hr
  obtain ⟨rfl, ho, hok, hv⟩ := hr
  exact ⟨A', c', l', rfl, ho.sv, hok, hv, hb⟩

set_option maxHeartbeats 400000 in
set_option maxRecDepth 100000 in
theorem dmove_any (A : Option Addr) (c : Nat) (l : List Pr) (o : Opr) (w : World) (hA : SV w A c l) (h : Ok l) (hk : keyB o.key = true) (hs : keyB o.src = true) (hn : valB o.n = true) (h0 : 0 ≤ o.n) :
    Calls Tryz.prog 77 #[.slice A l.length c, opV o] w (RetD w w.heap.size (moveV (valOf l) o)) := by
  have hv := valB_iff.1 (h.vb o.src)
  have hn' := valB_iff.1 hn
  have hr : ∀ x, valOf l o.src = x → moveV (valOf l) o = if x < o.n then none else putV (upd (valOf l) o.src (x - o.n)) o.key (upd (valOf l) o.src (x - o.n) o.key + o.n) := by rintro x rfl; rfl
  obtain ⟨kd, key, src, n⟩ := o
  unfold opV
  simp only at hk hs hn hn' h0 hv hr ⊢
  have hr' := hideP hr
  clear hr
  have hb0 := (Below.refl w.heap.size w).alloc (Nat.le_refl _) (.cells #[.int .i64 kd, .string key, .string src, .int .i64 n] 80)
  have hA0 := hA.below hb0
  have hwa : (w.alloc (.cells #[.int .i64 kd, .string key, .string src, .int .i64 n] 80)).heap.size = w.heap.size + 1 := by simp
  clear hA
  go_enter Tryz.func77, Tryz.ntmps77
  go_wp2_with fail
  refine (dget_any A c l src _ hA0 h hs).mono ?_
  rintro e w1 ⟨rfl, hb1⟩
  generalize hx : valOf l src = x at hv ⊢
  have HX := hideP hx
  clear hx
  have hb2 := hb0.trans (hb1.mono hb0.size)
  have hA1 := hA0.below hb1
  have q1 := hb1.cell (p := ⟨w.heap.size, 0, none⟩) (by simp)
  have q2 := hb1.cell (p := ⟨w.heap.size, 0 + 1, none⟩) (by simp)
  have q3 := hb1.cell (p := ⟨w.heap.size, 0 + 2, none⟩) (by simp)
  have q4 := hb1.cell (p := ⟨w.heap.size, 0 + 3, none⟩) (by simp)
  simp at q1 q2 q3 q4
  by_cases hlt : x < n
  · have HL := hideP hlt
    go_wp2_with fail
    go_ret2
    refine ⟨none, 0, [], false, rfl, ?_, hb2⟩
    rw [hr'.out x HX.out, if_pos HL.out]
  · have HL := hideP hlt
    have hxn : valB (x - n) = true := valB_iff.2 (by omega)
    go_wp2_with fail
    refine (put_via A c l src (x - n) _ hA1 h hs hxn).mono ?_
    rintro e w3 ⟨A3, c3, l3, rfl, hA3, hok3, hv3, hb3⟩
    have hy := valB_iff.1 (hok3.vb key)
    have HV3 := hideP hv3
    clear hv3
    have hsz1 := hb1.size
    have g2 := (hb3.cell (p := ⟨w.heap.size, 1, none⟩) (by simp at hsz1 ⊢; omega)).trans q2
    have g4 := (hb3.cell (p := ⟨w.heap.size, 3, none⟩) (by simp at hsz1 ⊢; omega)).trans q4
    have hb4 := hb2.trans (hb3.mono hb2.size)
    have hsz4 := hb3.size
    have hlt4 : w.heap.size < w3.heap.size := by simp at hsz1; omega
    clear hb0 hb1 hb2 hb3 hA0 hA1 q1 q2 q3 q4 hwa hsz1 hsz4
    generalize hgy : valOf l3 key = y at hy
    have hget : ∀ W, SV W A3 c3 l3 → Calls Tryz.prog 76 #[.slice A3 l3.length c3, .string key] W fun e w' => e = .returned (.int .i64 y) ∧ Below W.heap.size W w' := fun W hW => hgy ▸ dget_any A3 c3 l3 key W hW hok3 hk
    have HY := hideP hgy
    clear hgy
    go_wp2_with fail
    have hput : ∀ W, SV W A3 c3 l3 → Calls Tryz.prog 75 #[.slice A3 l3.length c3, .string key, .int .i64 (IntKind.i64.wrap (y + n))] W (RetD W W.heap.size (putV (valOf l3) key (y + n))) := fun W hW => by
      rw [show IntKind.i64.wrap (y + n) = y + n by simp only [IntKind.wrap_i64]; omega]
      exact dput_any A3 c3 l3 key (y + n) W hW hok3 hk
    have k3 : w3.drew.cell? ⟨w.heap.size, 1, none⟩ = some (.string key) ∧ w3.drew.cell? ⟨w.heap.size, 3, none⟩ = some (.int .i64 n) := ⟨g2, g4⟩
    have hA3d := hA3.below ((Below.refl _ _).drew)
    have hlt3 : w.heap.size < w3.drew.heap.size := hlt4
    clear g2 g4 hA3 hlt4
    go_region_held3 (fun w' => w'.cell? ⟨w.heap.size, 1, none⟩ = some (.string key) ∧ w'.cell? ⟨w.heap.size, 3, none⟩ = some (.int .i64 n)) (with_reducible first | exact k3 | exact k5 | exact k6) (first
      | (go_at_call 76; refine (hget _ ?_).mono ?_; exact hA3d; rintro e w5 ⟨rfl, hb5⟩; have k5 := And.intro ((hb5.cell (p := ⟨w.heap.size, 1, none⟩) hlt3).trans k3.1) ((hb5.cell (p := ⟨w.heap.size, 3, none⟩) hlt3).trans k3.2); have hA5 := hA3d.below hb5; have hlt5 : w.heap.size < w5.heap.size := Nat.lt_of_lt_of_le hlt3 hb5.size)
      | (go_at_call 75; refine (hput _ ?_).mono ?_; exact hA5; rintro e w6 ⟨A6, c6, l6, ok6, rfl, hr6, hb6⟩; have k6 := And.intro ((hb6.cell (p := ⟨w.heap.size, 1, none⟩) hlt5).trans k5.1) ((hb6.cell (p := ⟨w.heap.size, 3, none⟩) hlt5).trans k5.2)))
    have HR6 := hideP hr6
    clear hr6
    have hb7 : Below w.heap.size w w5 := hb4.drew.trans (hb5.mono hb4.size)
    have hb8 : Below w.heap.size w w6 := hb7.trans (hb6.mono hb7.size)
    go_wp2_with fail
    go_ret2
    refine ⟨A6, c6, l6, ok6, rfl, ?_, hb8⟩
    have e : upd (valOf l) src (x - n) key = y := by rw [← HV3.out]; exact HY.out
    rw [hr'.out x HX.out, if_neg (by have := HL.out; omega), e, ← HV3.out]
    have := HR6.out
    revert this
    cases putV (valOf l3) key (y + n) with
    | none => exact id
    | some v => exact fun ⟨a, b, d⟩ => ⟨a, b.mono hb7.size, d⟩
end Go.Proofs.YtcopmdgcjnkiaaaGreat

set_option linter.unusedVariables false
set_option linter.unusedSimpArgs false
namespace Go.Proofs.YtcopmdgcjnkiaaaGreat
open Go.RowKit

/-- the cells of an operation that was handed over -/
structure OpAt (w : World) (b : Nat) (o : Opr) : Prop where
  lt : b < w.heap.size
  kind : w.cell? ⟨b, 0, none⟩ = some (.int .i64 o.kind)
  key : w.cell? ⟨b, 1, none⟩ = some (.string o.key)
  src : w.cell? ⟨b, 2, none⟩ = some (.string o.src)
  n : w.cell? ⟨b, 3, none⟩ = some (.int .i64 o.n)
theorem OpAt.below {w w' : World} {b : Nat} {o : Opr} (h : OpAt w b o) (hb : Below w.heap.size w w') : OpAt w' b o :=
  ⟨Nat.lt_of_lt_of_le h.lt hb.size, (hb.cell (p := ⟨b, 0, none⟩) h.lt).trans h.kind, (hb.cell (p := ⟨b, 1, none⟩) h.lt).trans h.key, (hb.cell (p := ⟨b, 2, none⟩) h.lt).trans h.src, (hb.cell (p := ⟨b, 3, none⟩) h.lt).trans h.n⟩
theorem OpAt.drew {w : World} {b : Nat} {o : Opr} (h : OpAt w b o) : OpAt w.drew b o := ⟨h.lt, h.kind, h.key, h.src, h.n⟩
theorem OpAt.new (w : World) (o : Opr) (t : TypeId) : OpAt (w.alloc (.cells #[.int .i64 o.kind, .string o.key, .string o.src, .int .i64 o.n] t)) w.heap.size o :=
  ⟨by simp, by simp, by simp, by simp, by simp⟩

end Go.Proofs.YtcopmdgcjnkiaaaGreat
