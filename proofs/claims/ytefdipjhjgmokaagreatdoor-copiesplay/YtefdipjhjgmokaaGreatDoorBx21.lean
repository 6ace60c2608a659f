/-
  copies.New.
  deed.put, deed.get, deed.move and deed.step.
  The cells of an operation that was handed over (no program in it).
  deed.step.
-/
import Derived.Test.YtefdipjhjgmokaaGreatDoorBx12
import Derived.Test.YtefdipjhjgmokaaGreatDoorBx20
import Derived.Test.YtefdipjhjgmokaaGreatDoorBx11
import Derived.Deep.RegionHeld3
import Derived.Test.YtefdipjhjgmokaaGreatDoorBx1
import Derived.OwnWalk
set_option linter.unusedVariables false
set_option linter.unusedSimpArgs false
namespace Go.Proofs.YtefdipjhjgmokaaGreatDoor
open Go.RowKit

/-- Copies are handed back -/
def RetNc (w : World) (inputs n : Nat) (cs : List ByteArray) (os : List Int) (l : List Pr) (e : Ending) (w' : World) : Prop :=
  ∃ c : Cs, e = .returned (.tuple #[.pointer (some ⟨c.s.g, 0, none⟩), .int .i64 0]) ∧ c.Ok w' w.heap.size ∧ c.s.ct = List.replicate inputs [[]] ∧ c.st = List.replicate n ⟨valOf l, cs, os, []⟩ ∧ Below w.heap.size w w'
/-- while replicas are made -/
structure NcH (w : World) (g gm k inputs : Nat) (m : Mp) (A : Option Addr) (l : List Pr) (c : Cs) (wr : World) : Prop where
  ok : c.Ok wr w.heap.size
  gg : c.s.g = g
  ct : c.s.ct = List.replicate inputs [[]]
  st : c.st = List.replicate k ⟨valOf l, m.cs, m.os, []⟩
  x0 : Box wr gm 34 #[.slice m.A m.cs.length m.ca, .slice m.O m.os.length m.co]
  be : Below w.heap.size w wr
  lo : w.heap.size ≤ gm
def NcI (w : World) (g gm n inputs : Nat) (m : Mp) (A : Option Addr) (l : List Pr) (i : Value) (wr : World) : Prop := ∃ (k : Nat) (c : Cs), k ≤ n ∧ i = .int .i64 k ∧ NcH w g gm k inputs m A l c wr
set_option maxHeartbeats 2000000 in
set_option maxRecDepth 100000 in
theorem cnew_ok (inputs n : Nat) (m : Mp) (A : Option Addr) (cp : Nat) (l : List Pr) (w : World) (h1 : 1 ≤ inputs) (h2 : inputs ≤ 4) (h3 : 1 ≤ n) (h4 : n ≤ 4) (hm : MS w m) (hA : PS w w.heap.size A l) (hok : OkM m.cs m.os) (hokl : Ok l) :
    Calls Tryz.prog 10 #[.int .i64 (inputs : Int), .int .i64 (n : Int), .agg #[.slice m.A m.cs.length m.ca, .slice m.O m.os.length m.co], .slice A l.length cp] w (RetNc w inputs n m.cs m.os l) := by
  have b0 := (Below.refl w.heap.size w).alloc (Nat.le_refl _) (.cells #[.slice m.A m.cs.length m.ca, .slice m.O m.os.length m.co] 34)
  have x0 := Box.new w 34 #[.slice m.A m.cs.length m.ca, .slice m.O m.os.length m.co]
  have g1 : ¬ (n : Int) < 1 := by omega
  have g2 : ¬ (4 : Int) < (n : Int) := by omega
  have d1 : decide ((n : Int) < 1) = false := decide_eq_false g1
  have HN := hideP (fun (W : World) => mnew_ok inputs W h1 h2)
  have HPN := hideP (fun (W : World) (h1 : MS W m) (h2 : PS W W.heap.size A l) => new_ok m A cp l W h1 h2 hok hokl)
  have HMS := hideP (fun (W : World) (hb : Below w.heap.size w W) => show MS W m ∧ PS W W.heap.size A l from ⟨hm.below hb, (hA.below hb).more hb.size⟩)
  have HN4 := hideP h4
  clear hm hA hok hokl h1 h2 h3
  go_enter Tryz.func10, Tryz.ntmps10
  go_wp2_with fail
  generalize w.alloc _ = w1 at b0 x0 ⊢
  generalize hgm : w.heap.size = gm at x0 ⊢
  refine (HN.out w1).mono ?_
  clear HN
  rintro e w2 ⟨s, rfl, hsx, hs, hct, hb2⟩
  have c0 := hs.mg.c0
  have c1 := hs.mg.c1
  have hs2 := hs.mono b0.size
  have b2 := b0.trans (hb2.mono b0.size)
  have hem := hs2.embed
  have al := (Below.refl w2.heap.size w2).alloc (Nat.le_refl _) (.cells #[.slice s.AI s.ins.length s.cI, .int .i64 (s.added : Int), .slice none 0 0] 51)
  have hH : NcI w w2.heap.size gm n inputs m A l (.int .i64 0) (w2.alloc (.cells #[.slice s.AI s.ins.length s.cI, .int .i64 (s.added : Int), .slice none 0 0] 51)) :=
    ⟨0, _, Nat.zero_le _, rfl, hem, rfl, hct, rfl, (x0.below hb2).below al, b2.trans (al.mono b2.size), by omega⟩
  clear hs hs2 hct hsx hem x0 b0 b2 hb2 al
  go_wp2_with fail
  generalize w2.heap.size = g at hH ⊢
  generalize w2.alloc _ = w3 at hH ⊢
  go_wp2_with fail
  go_loopw [35] (NcI w g gm n inputs m A l) (fun i _ => n - (intOf i).toNat)
  case atStart => exact hH
  case round =>
    clear hH c0 c1
    obtain ⟨k, c, hk, rfl, h⟩ := hrel
    by_cases hlt : k < n
    · have z1 := h.x0.cell 0 (v := .slice m.A m.cs.length m.ca) rfl
      have z2 := h.x0.cell 1 (v := .slice m.O m.os.length m.co) rfl
      have g3 : (k : Int) < (n : Int) := by omega
      have HP := hideP (HPN.out wr (HMS.out wr h.be).1 (HMS.out wr h.be).2)
      go_wp2_with fail
      refine HP.out.mono ?_
      clear HP
      rintro e w4 ⟨g', A', ca', O', co', q, rfl, hp, hb4⟩
      have hcl : c.rs.length = k := by have := congrArg List.length h.st; simpa [Cs.st] using this
      have hng : ∀ (j : Nat) (z : Rp), c.rs[j]? = some z → g' ≠ z.g := fun j z hz e => by
        have e1 := (h.ok.ro j z hz).pb.box.lt
        have e2 := hp.low
        omega
      have hok4 := h.ok.below hb4
      obtain ⟨A2, c2, w5, hrun, k0, k1, hok5, hfr⟩ := hok4.grow ⟨g', ⟨A', ca', m.cs, O', co', m.os⟩, l, q, none, 0, []⟩ ⟨hp.mono h.ok.size, OR.nil _ _ _⟩ rfl (by have := HN4.out; omega) hng rfl 49
      have c2' := hok4.c2
      have b4 := h.be.trans (hb4.mono h.be.size)
      have HX := hideP (fun (i : Value) (hi : i = .int .i64 ((k + 1 : Nat) : Int)) => show NcI w g gm n inputs m A l i (w5.setCell ⟨c.s.g, 2, none⟩ (.slice A2 (c.rs ++ [(⟨g', ⟨A', ca', m.cs, O', co', m.os⟩, l, q, none, 0, []⟩ : Rp)]).length c2)) from
        ⟨k + 1, _, hlt, hi, hok5, h.gg, h.ct, by
          show List.map Rp.st (c.rs ++ [_]) = _
          rw [List.map_append, show List.map Rp.st c.rs = List.replicate k _ from h.st, List.replicate_succ']
          rfl, hfr.box_ty (h.x0.below hb4) (hok4.off (by decide) (by decide) (by decide) (by decide) (by decide) (by decide) (by decide)), hfr.below (fun k hk => (hok4.lo hk).1) hok4.size b4, h.lo⟩)
      rw [h.gg] at k0 k1 c2' HX
      have HR := hideP hrun
      clear hrun h hok4 hok5 hfr hp hng b4 hb4 z1 z2 hcl
      generalize (c.rs ++ [(⟨g', ⟨A', ca', m.cs, O', co', m.os⟩, l, q, none, 0, []⟩ : Rp)]).length = n2 at HR HX
      simp only [List.length_nil] at HR
      go_wp2_with (at_builtin; refine Lib.wpList_append_run _ rfl _ _ _ _ rfl _ _ rfl rfl _ _ HR.out ?_)
      go_roundw
      case rel => exact HX.out _ (by go_num)
      case measure => simp [intOf]; omega
    · obtain rfl : k = n := by omega
      have HF := hideP (show RetNc w inputs k m.cs m.os l (.returned (.tuple #[.pointer (some ⟨g, 0, none⟩), .int .i64 0])) wr from ⟨c, by rw [h.gg], h.ok, h.ct, h.st, h.be⟩)
      clear h
      go_wp2_with fail
      go_ret2
      exact HF.out
end Go.Proofs.YtefdipjhjgmokaaGreatDoor

set_option linter.unusedVariables false
set_option linter.unusedSimpArgs false
namespace Go.Proofs.YtefdipjhjgmokaaGreatDoor
open Go.RowKit

/-- what a step hands back: the new store in memory from block B on, and true; or false -/
def RetD (w : World) (B : Nat) (r : Option VF) (e : Ending) (w' : World) : Prop :=
  ∃ A c l ok, e = .returned (.tuple #[.slice A (l : List Pr).length c, .bool ok]) ∧ (match r with | some v => ok = true ∧ OV w' B A c l ∧ Ok l ∧ valOf l = v | none => ok = false) ∧ Below w.heap.size w w'

set_option maxHeartbeats 400000 in
set_option maxRecDepth 100000 in
theorem dget_any (A : Option Addr) (c : Nat) (l : List Pr) (key : ByteArray) (w : World) (hA : SV w A c l) (h : Ok l) (hk : keyB key = true) :
    Calls Tryz.prog 188 #[.slice A l.length c, .string key] w fun e w' => e = .returned (.int .i64 (valOf l key)) ∧ Below w.heap.size w w' := by
  go_enter Tryz.func188, Tryz.ntmps188
  go_wp2_with fail
  refine (get_ok A c l key _ hA (by have := h.small; omega) h hk).mono ?_
  rintro e w' ⟨rfl, hb⟩
  go_wp2_with fail
  go_ret
  exact ⟨rfl, hb⟩

set_option maxHeartbeats 400000 in
set_option maxRecDepth 100000 in
theorem dput_any (A : Option Addr) (c : Nat) (l : List Pr) (key : ByteArray) (n : Int) (w : World) (hA : SV w A c l) (h : Ok l) (hk : keyB key = true) :
    Calls Tryz.prog 187 #[.slice A l.length c, .string key, .int .i64 n] w (RetD w w.heap.size (putV (valOf l) key n)) := by
  cases hn : valB n
  · have HR := hideP (show putV (valOf l) key n = none by simp [putV, hn])
    go_enter Tryz.func187, Tryz.ntmps187
    go_wp2_with fail
    refine (put_nv A c l key n _ hA h hk hn).mono ?_
    rintro e w' ⟨rfl, hb⟩
    go_wp2_with fail
    go_ret2
    refine ⟨none, 0, [], false, rfl, ?_, hb⟩
    rw [HR.out]
  · have HR := hideP (show putV (valOf l) key n = some (upd (valOf l) key n) by simp [putV, hn])
    go_enter Tryz.func187, Tryz.ntmps187
    go_wp2_with fail
    refine (put_st A c l key n _ hA h hk hn).mono ?_
    rintro e w' ⟨A', c', l', rfl, hsv, hok, hv, hb, ho⟩
    have HV := hideP hv
    clear hv hsv
    go_wp2_with fail
    go_ret2
    refine ⟨A', c', l', true, rfl, ?_, hb⟩
    rw [HR.out]
    exact ⟨rfl, ho, hok, HV.out⟩

set_option maxHeartbeats 400000 in
set_option maxRecDepth 100000 in
theorem put_via (A : Option Addr) (c : Nat) (l : List Pr) (key : ByteArray) (n : Int) (w : World) (hA : SV w A c l) (h : Ok l) (hk : keyB key = true) (hn : valB n = true) :
    Calls Tryz.prog 187 #[.slice A l.length c, .string key, .int .i64 n] w fun e w' => ∃ A' c' l', e = .returned (.tuple #[.slice A' (l' : List Pr).length c', .bool true]) ∧ SV w' A' c' l' ∧ Ok l' ∧ valOf l' = upd (valOf l) key n ∧ Below w.heap.size w w' := by
  refine (dput_any A c l key n w hA h hk).mono ?_
  rintro e w' ⟨A', c', l', ok, rfl, hr, hb⟩
  rw [show putV (valOf l) key n = some (upd (valOf l) key n) by simp [putV, hn]] at hr
  obtain ⟨rfl, ho, hok, hv⟩ := hr
  exact ⟨A', c', l', rfl, ho.sv, hok, hv, hb⟩

set_option maxHeartbeats 400000 in
set_option maxRecDepth 100000 in
theorem dmove_any (A : Option Addr) (c : Nat) (l : List Pr) (o : Opr) (w : World) (hA : SV w A c l) (h : Ok l) (hk : keyB o.key = true) (hs : keyB o.src = true) (hn : valB o.n = true) (h0 : 0 ≤ o.n) :
    Calls Tryz.prog 189 #[.slice A l.length c, opV o] w (RetD w w.heap.size (moveV (valOf l) o)) := by
  have hv := valB_iff.1 (h.vb o.src)
  have hn' := valB_iff.1 hn
  have hr : ∀ x, valOf l o.src = x → moveV (valOf l) o = if x < o.n then none else putV (upd (valOf l) o.src (x - o.n)) o.key (upd (valOf l) o.src (x - o.n) o.key + o.n) := by rintro x rfl; rfl
  obtain ⟨kd, key, src, n⟩ := o
  unfold opV
  simp only at hk hs hn hn' h0 hv hr ⊢
  have hr' := hideP hr
  clear hr
  have hb0 := (Below.refl w.heap.size w).alloc (Nat.le_refl _) (.cells #[.int .i64 kd, .string key, .string src, .int .i64 n] 71)
  have hA0 := hA.below hb0
  have hwa : (w.alloc (.cells #[.int .i64 kd, .string key, .string src, .int .i64 n] 71)).heap.size = w.heap.size + 1 := by simp
  clear hA
  go_enter Tryz.func189, Tryz.ntmps189
  go_wp2_with fail
  refine (dget_any A c l src _ hA0 h hs).mono ?_
  rintro e w1 ⟨rfl, hb1⟩
  generalize hx : valOf l src = x at hv ⊢
  have HX := hideP hx
  clear hx
  have hb2 := hb0.trans (hb1.mono hb0.size)
  have hA1 := hA0.below hb1
  have q1 := hb1.cell (p := ⟨w.heap.size, 0, none⟩) (by simp)
  have q2 := hb1.cell (p := ⟨w.heap.size, 0 + 1, none⟩) (by simp)
  have q3 := hb1.cell (p := ⟨w.heap.size, 0 + 2, none⟩) (by simp)
  have q4 := hb1.cell (p := ⟨w.heap.size, 0 + 3, none⟩) (by simp)
  simp at q1 q2 q3 q4
  by_cases hlt : x < n
  · have HL := hideP hlt
    go_wp2_with fail
    go_ret2
    refine ⟨none, 0, [], false, rfl, ?_, hb2⟩
    rw [hr'.out x HX.out, if_pos HL.out]
  · have HL := hideP hlt
    have hxn : valB (x - n) = true := valB_iff.2 (by omega)
    go_wp2_with fail
    refine (put_via A c l src (x - n) _ hA1 h hs hxn).mono ?_
    rintro e w3 ⟨A3, c3, l3, rfl, hA3, hok3, hv3, hb3⟩
    have hy := valB_iff.1 (hok3.vb key)
    have HV3 := hideP hv3
    clear hv3
    have hsz1 := hb1.size
    have g2 := (hb3.cell (p := ⟨w.heap.size, 1, none⟩) (by simp at hsz1 ⊢; omega)).trans q2
    have g4 := (hb3.cell (p := ⟨w.heap.size, 3, none⟩) (by simp at hsz1 ⊢; omega)).trans q4
    have hb4 := hb2.trans (hb3.mono hb2.size)
    have hsz4 := hb3.size
    have hlt4 : w.heap.size < w3.heap.size := by simp at hsz1; omega
    clear hb0 hb1 hb2 hb3 hA0 hA1 q1 q2 q3 q4 hwa hsz1 hsz4
    generalize hgy : valOf l3 key = y at hy
    have hget : ∀ W, SV W A3 c3 l3 → Calls Tryz.prog 188 #[.slice A3 l3.length c3, .string key] W fun e w' => e = .returned (.int .i64 y) ∧ Below W.heap.size W w' := fun W hW => hgy ▸ dget_any A3 c3 l3 key W hW hok3 hk
    have HY := hideP hgy
    clear hgy
    go_wp2_with fail
    have hput : ∀ W, SV W A3 c3 l3 → Calls Tryz.prog 187 #[.slice A3 l3.length c3, .string key, .int .i64 (IntKind.i64.wrap (y + n))] W (RetD W W.heap.size (putV (valOf l3) key (y + n))) := fun W hW => by
      rw [show IntKind.i64.wrap (y + n) = y + n by simp only [IntKind.wrap_i64]; omega]
      exact dput_any A3 c3 l3 key (y + n) W hW hok3 hk
    have k3 : w3.drew.cell? ⟨w.heap.size, 1, none⟩ = some (.string key) ∧ w3.drew.cell? ⟨w.heap.size, 3, none⟩ = some (.int .i64 n) := ⟨g2, g4⟩
    have hA3d := hA3.below ((Below.refl _ _).drew)
    have hlt3 : w.heap.size < w3.drew.heap.size := hlt4
    clear g2 g4 hA3 hlt4
    go_region_held3 (fun w' => w'.cell? ⟨w.heap.size, 1, none⟩ = some (.string key) ∧ w'.cell? ⟨w.heap.size, 3, none⟩ = some (.int .i64 n)) (with_reducible first | exact k3 | exact k5 | exact k6) (first
      | (go_at_call 188; refine (hget _ ?_).mono ?_; exact hA3d; rintro e w5 ⟨rfl, hb5⟩; have k5 := And.intro ((hb5.cell (p := ⟨w.heap.size, 1, none⟩) hlt3).trans k3.1) ((hb5.cell (p := ⟨w.heap.size, 3, none⟩) hlt3).trans k3.2); have hA5 := hA3d.below hb5; have hlt5 : w.heap.size < w5.heap.size := Nat.lt_of_lt_of_le hlt3 hb5.size)
      | (go_at_call 187; refine (hput _ ?_).mono ?_; exact hA5; rintro e w6 ⟨A6, c6, l6, ok6, rfl, hr6, hb6⟩; have k6 := And.intro ((hb6.cell (p := ⟨w.heap.size, 1, none⟩) hlt5).trans k5.1) ((hb6.cell (p := ⟨w.heap.size, 3, none⟩) hlt5).trans k5.2)))
    have HR6 := hideP hr6
    clear hr6
    have hb7 : Below w.heap.size w w5 := hb4.drew.trans (hb5.mono hb4.size)
    have hb8 : Below w.heap.size w w6 := hb7.trans (hb6.mono hb7.size)
    go_wp2_with fail
    go_ret2
    refine ⟨A6, c6, l6, ok6, rfl, ?_, hb8⟩
    have e : upd (valOf l) src (x - n) key = y := by rw [← HV3.out]; exact HY.out
    rw [hr'.out x HX.out, if_neg (by have := HL.out; omega), e, ← HV3.out]
    have := HR6.out
    revert this
    cases putV (valOf l3) key (y + n) with
    | none => exact id
    | some v => exact fun ⟨a, b, d⟩ => ⟨a, b.mono hb7.size, d⟩
end Go.Proofs.YtefdipjhjgmokaaGreatDoor

set_option linter.unusedVariables false
set_option linter.unusedSimpArgs false
namespace Go.Proofs.YtefdipjhjgmokaaGreatDoor
open Go.RowKit

/-- the cells of an operation that was handed over -/
structure OpAt (w : World) (b : Nat) (o : Opr) : Prop where
  lt : b < w.heap.size
  kind : w.cell? ⟨b, 0, none⟩ = some (.int .i64 o.kind)
  key : w.cell? ⟨b, 1, none⟩ = some (.string o.key)
  src : w.cell? ⟨b, 2, none⟩ = some (.string o.src)
  n : w.cell? ⟨b, 3, none⟩ = some (.int .i64 o.n)
theorem OpAt.below {w w' : World} {b : Nat} {o : Opr} (h : OpAt w b o) (hb : Below w.heap.size w w') : OpAt w' b o :=
  ⟨Nat.lt_of_lt_of_le h.lt hb.size, (hb.cell (p := ⟨b, 0, none⟩) h.lt).trans h.kind, (hb.cell (p := ⟨b, 1, none⟩) h.lt).trans h.key, (hb.cell (p := ⟨b, 2, none⟩) h.lt).trans h.src, (hb.cell (p := ⟨b, 3, none⟩) h.lt).trans h.n⟩
theorem OpAt.drew {w : World} {b : Nat} {o : Opr} (h : OpAt w b o) : OpAt w.drew b o := ⟨h.lt, h.kind, h.key, h.src, h.n⟩
theorem OpAt.new (w : World) (o : Opr) (t : TypeId) : OpAt (w.alloc (.cells #[.int .i64 o.kind, .string o.key, .string o.src, .int .i64 o.n] t)) w.heap.size o :=
  ⟨by simp, by simp, by simp, by simp, by simp⟩

theorem OpAt.grown {w w' : World} {b : Nat} {o : Opr} (h : OpAt w b o) {row : Option Nat} (hg : w.grownBy w' row) (hne : some b ≠ row) : OpAt w' b o :=
  ⟨Nat.lt_of_lt_of_le h.lt hg.size, hg.cell h.kind hne, hg.cell h.key hne, hg.cell h.src hne, hg.cell h.n hne⟩
end Go.Proofs.YtefdipjhjgmokaaGreatDoor

set_option linter.unusedVariables false
set_option linter.unusedSimpArgs false
namespace Go.Proofs.YtefdipjhjgmokaaGreatDoor
open Go.RowKit

theorem RetD.mono {w : World} {B B' : Nat} {r : Option VF} {e : Ending} {w' : World} (h : RetD w B r e w') (hB : B' ≤ B) : RetD w B' r e w' := by
  obtain ⟨A, c, l, ok, he, hr, hb⟩ := h
  refine ⟨A, c, l, ok, he, ?_, hb⟩
  revert hr
  cases r with
  | none => exact id
  | some v => exact fun ⟨a, b, d⟩ => ⟨a, b.mono hB, d⟩
theorem RetD.from_ {w0 w : World} {B : Nat} {r : Option VF} {e : Ending} {w' : World} (h : RetD w B r e w') (hb : Below w0.heap.size w0 w) : RetD w0 B r e w' := by
  obtain ⟨A, c, l, ok, he, hr, hb'⟩ := h
  exact ⟨A, c, l, ok, he, hr, hb.trans (hb'.mono hb.size)⟩
set_option maxHeartbeats 400000 in
set_option maxRecDepth 100000 in
theorem step_any (B : Nat) (A : Option Addr) (c : Nat) (l : List Pr) (o : Opr) (w : World) (hO : OV w B A c l) (hB : B ≤ w.heap.size) (h : Ok l) (ho : chkO o = 0) :
    Calls Tryz.prog 150 #[.slice A l.length c, opV o] w (RetD w B (stepV (valOf l) o)) := by
  obtain ⟨h1, h5, hk, hs, hv, hn⟩ := chkO_zero.1 ho
  have hA := hO.sv
  obtain ⟨kd, key, src, n⟩ := o
  have hat := OpAt.new w ⟨kd, key, src, n⟩ 71
  unfold opV
  simp only at h1 h5 hk hs hv hn hat ⊢
  have hb0 := (Below.refl w.heap.size w).alloc (Nat.le_refl _) (.cells #[.int .i64 kd, .string key, .string src, .int .i64 n] 71)
  have hA0 := hA.below hb0
  have hO0 := hO.below hb0
  clear hA hO ho
  rcases (show kd = 1 ∨ kd = 2 ∨ kd = 3 ∨ kd = 4 ∨ kd = 5 by omega) with rfl | rfl | rfl | rfl | rfl
  · have HR := hideP (show stepV (valOf l) ⟨1, key, src, n⟩ = putV (valOf l) key n by simp [stepV])
    clear hv hn hs
    go_enter Tryz.func150, Tryz.ntmps150
    go_wp2_with fail
    refine (dput_any A c l key n _ hA0 h hk).mono ?_
    intro e w1 hr
    obtain ⟨A1, c1, l1, ok1, rfl, hr1, hb1⟩ := (hr.mono (Nat.le_trans hB hb0.size)).from_ hb0
    have HR1 := hideP hr1
    clear hr1 hr
    go_wp2_with fail
    go_ret2
    refine ⟨A1, c1, l1, ok1, rfl, ?_, hb1⟩
    rw [HR.out]
    exact HR1.out
  · have hy := valB_iff.1 (h.vb key)
    have hn' := valB_iff.1 (hv (by decide))
    generalize hgy : valOf l key = y at hy
    have HR := hideP (show stepV (valOf l) ⟨2, key, src, n⟩ = putV (valOf l) key (y + n) by simp [stepV, hgy])
    have hget : ∀ W, SV W A c l → Calls Tryz.prog 188 #[.slice A l.length c, .string key] W fun e w' => e = .returned (.int .i64 y) ∧ Below W.heap.size W w' := fun W hW => hgy ▸ dget_any A c l key W hW h hk
    have hput : ∀ W, SV W A c l → Calls Tryz.prog 187 #[.slice A l.length c, .string key, .int .i64 (IntKind.i64.wrap (y + n))] W (RetD W W.heap.size (putV (valOf l) key (y + n))) := fun W hW => by
      rw [show IntKind.i64.wrap (y + n) = y + n by simp only [IntKind.wrap_i64]; omega]
      exact dput_any A c l key (y + n) W hW h hk
    clear hv hn hs hgy
    go_enter Tryz.func150, Tryz.ntmps150
    go_wp2_with fail
    generalize w.alloc (.cells #[.int .i64 2, .string key, .string src, .int .i64 n] 71) = w0 at hat hb0 hA0 hO0 ⊢
    have k0 := And.intro hat.drew.key hat.drew.n
    have hAd := hA0.below ((Below.refl _ _).drew)
    have hatd := hat.drew
    simp only at k0
    go_region_held3 (fun w' => w'.cell? ⟨w.heap.size, 1, none⟩ = some (.string key) ∧ w'.cell? ⟨w.heap.size, 3, none⟩ = some (.int .i64 n)) (with_reducible first | exact k0 | exact k5 | exact k6) (first
      | (go_at_call 188; refine (hget _ ?_).mono ?_; exact hAd; rintro e w5 ⟨rfl, hb5⟩; have hat5 := hatd.below hb5; have k5 := And.intro hat5.key hat5.n; simp only at k5; have hA5 := hAd.below hb5)
      | (go_at_call 187; refine (hput _ ?_).mono ?_; exact hA5; rintro e w6 ⟨A6, c6, l6, ok6, rfl, hr6, hb6⟩; have hat6 := hat5.below hb6; have k6 := And.intro hat6.key hat6.n; simp only at k6))
    have hb7 : Below w.heap.size w w5 := hb0.drew.trans (hb5.mono hb0.size)
    have hb8 : Below w.heap.size w w6 := hb7.trans (hb6.mono hb7.size)
    have HR6 := hideP (RetD.mono (B' := B) ⟨A6, c6, l6, ok6, rfl, hr6, hb6⟩ (Nat.le_trans hB hb7.size))
    clear hr6
    go_wp2_with fail
    go_ret2
    rw [HR.out]
    exact HR6.out.from_ hb7
  · have hsk := (hs (by decide)).1
    have HR := hideP (show stepV (valOf l) ⟨3, key, src, n⟩ = putV (valOf l) key (valOf l src) by simp [stepV])
    clear hv hn hs
    go_enter Tryz.func150, Tryz.ntmps150
    go_wp2_with fail
    generalize w.alloc (.cells #[.int .i64 3, .string key, .string src, .int .i64 n] 71) = w0 at hat hb0 hA0 hO0 ⊢
    have k0 := And.intro hat.drew.key hat.drew.src
    have hAd := hA0.below ((Below.refl _ _).drew)
    have hatd := hat.drew
    simp only at k0
    go_region_held3 (fun w' => w'.cell? ⟨w.heap.size, 1, none⟩ = some (.string key) ∧ w'.cell? ⟨w.heap.size, 2, none⟩ = some (.string src)) (with_reducible first | exact k0 | exact k5 | exact k6) (first
      | (go_at_call 188; refine (dget_any A c l src _ ?_ h hsk).mono ?_; exact hAd; rintro e w5 ⟨rfl, hb5⟩; have hat5 := hatd.below hb5; have k5 := And.intro hat5.key hat5.src; simp only at k5; have hA5 := hAd.below hb5)
      | (go_at_call 187; refine (dput_any A c l key (valOf l src) _ ?_ h hk).mono ?_; exact hA5; rintro e w6 ⟨A6, c6, l6, ok6, rfl, hr6, hb6⟩; have hat6 := hat5.below hb6; have k6 := And.intro hat6.key hat6.src; simp only at k6))
    have hb7 : Below w.heap.size w w5 := hb0.drew.trans (hb5.mono hb0.size)
    have hb8 : Below w.heap.size w w6 := hb7.trans (hb6.mono hb7.size)
    have HR6 := hideP (RetD.mono (B' := B) ⟨A6, c6, l6, ok6, rfl, hr6, hb6⟩ (Nat.le_trans hB hb7.size))
    clear hr6
    go_wp2_with fail
    go_ret2
    rw [HR.out]
    exact HR6.out.from_ hb7
  · have HR := hideP (show ∀ x, valOf l key = x → stepV (valOf l) ⟨4, key, src, n⟩ = if n ≤ x then some (valOf l) else none by rintro x rfl; simp [stepV])
    clear hv hn hs
    go_enter Tryz.func150, Tryz.ntmps150
    go_wp2_with fail
    generalize w.alloc (.cells #[.int .i64 4, .string key, .string src, .int .i64 n] 71) = w0 at hat hb0 hA0 hO0 ⊢
    have k0 := And.intro hat.drew.key hat.drew.n
    have hAd := hA0.below ((Below.refl _ _).drew)
    have hOd := hO0.below ((Below.refl _ _).drew)
    have hatd := hat.drew
    simp only at k0
    go_region_held3 (fun w' => w'.cell? ⟨w.heap.size, 1, none⟩ = some (.string key) ∧ w'.cell? ⟨w.heap.size, 3, none⟩ = some (.int .i64 n)) (with_reducible first | exact k0 | exact k5) (first
      | (go_at_call 188; refine (dget_any A c l key _ ?_ h hk).mono ?_; exact hAd; rintro e w5 ⟨rfl, hb5⟩; have hat5 := hatd.below hb5; have k5 := And.intro hat5.key hat5.n; simp only at k5; have hA5 := hAd.below hb5))
    have hb7 : Below w.heap.size w w5 := hb0.drew.trans (hb5.mono hb0.size)
    have hO5 := hOd.below hb5
    go_wp2_with fail
    go_ret2
    by_cases hx : n ≤ valOf l key
    · exact ⟨A, c, l, true, by simp [hx], by rw [HR.out _ rfl, if_pos hx]; exact ⟨rfl, hO5, h, rfl⟩, hb7⟩
    · exact ⟨A, c, l, false, by simp [hx], by rw [HR.out _ rfl, if_neg hx], hb7⟩
  · have hsk := (hs (by decide)).1
    have hnv := hv (by decide)
    have hn0 := hn (by decide)
    have HR := hideP (show stepV (valOf l) ⟨5, key, src, n⟩ = moveV (valOf l) ⟨5, key, src, n⟩ by simp [stepV])
    clear hv hn hs
    go_enter Tryz.func150, Tryz.ntmps150
    go_wp2_with fail
    refine (dmove_any A c l ⟨5, key, src, n⟩ _ hA0 h hk hsk hnv hn0).mono ?_
    intro e w1 hr
    obtain ⟨A1, c1, l1, ok1, rfl, hr1, hb1⟩ := (hr.mono (Nat.le_trans hB hb0.size)).from_ hb0
    have HR1 := hideP hr1
    clear hr1 hr
    go_wp2_with fail
    go_ret2
    refine ⟨A1, c1, l1, ok1, rfl, ?_, hb1⟩
    rw [HR.out]
    exact HR1.out
end Go.Proofs.YtefdipjhjgmokaaGreatDoor
