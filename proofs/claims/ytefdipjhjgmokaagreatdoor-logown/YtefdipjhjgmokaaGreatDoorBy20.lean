/-
  deed.put, deed.get, deed.move and deed.step.
  The cells of an operation that was handed over (no program in it).
  deed.step.
  deed.Run.
-/
import Derived.Test.YtefdipjhjgmokaaGreatDoorBy11
import Derived.Deep.RegionHeld3
import Derived.Test.YtefdipjhjgmokaaGreatDoorBy1
import Derived.OwnWalk
import Derived.Test.YtefdipjhjgmokaaGreatDoorBy6
set_option linter.unusedVariables false
set_option linter.unusedSimpArgs false
namespace Go.Proofs.YtefdipjhjgmokaaGreatDoor
open Go.RowKit

/-- what a step hands back: the new store in memory from block B on, and true; or false -/
def RetD (w : World) (B : Nat) (r : Option VF) (e : Ending) (w' : World) : Prop :=
  ∃ A c l ok, e = .returned (.tuple #[.slice A (l : List Pr).length c, .bool ok]) ∧ (match r with | some v => ok = true ∧ OV w' B A c l ∧ Ok l ∧ valOf l = v | none => ok = false) ∧ Below w.heap.size w w'

set_option maxHeartbeats 400000 in
set_option maxRecDepth 100000 in
theorem dget_any (A : Option Addr) (c : Nat) (l : List Pr) (key : ByteArray) (w : World) (hA : SV w A c l) (h : Ok l) (hk : keyB key = true) :
    Calls Tryz.prog 188 #[.slice A l.length c, .string key] w fun e w' => e = .returned (.int .i64 (valOf l key)) ∧ Below w.heap.size w w' := by
  go_enter Tryz.func188, Tryz.ntmps188
  go_wp2_with fail
  refine (get_ok A c l key _ hA (by have := h.small; omega) h hk).mono ?_
  rintro e w' ⟨rfl, hb⟩
  go_wp2_with fail
  go_ret
  exact ⟨rfl, hb⟩

set_option maxHeartbeats 400000 in
set_option maxRecDepth 100000 in
theorem dput_any (A : Option Addr) (c : Nat) (l : List Pr) (key : ByteArray) (n : Int) (w : World) (hA : SV w A c l) (h : Ok l) (hk : keyB key = true) :
    Calls Tryz.prog 187 #[.slice A l.length c, .string key, .int .i64 n] w (RetD w w.heap.size (putV (valOf l) key n)) := by
  cases hn : valB n
  · have HR := hideP (show putV (valOf l) key n = none by simp [putV, hn])
    go_enter Tryz.func187, Tryz.ntmps187
    go_wp2_with fail
    refine (put_nv A c l key n _ hA h hk hn).mono ?_
    rintro e w' ⟨rfl, hb⟩
    go_wp2_with fail
    go_ret2
    refine ⟨none, 0, [], false, rfl, ?_, hb⟩
    rw [HR.out]
  · have HR := hideP (show putV (valOf l) key n = some (upd (valOf l) key n) by simp [putV, hn])
    go_enter Tryz.func187, Tryz.ntmps187
    go_wp2_with fail
    refine (put_st A c l key n _ hA h hk hn).mono ?_
    rintro e w' ⟨A', c', l', rfl, hsv, hok, hv, hb, ho⟩
    have HV := hideP hv
    clear hv hsv
    go_wp2_with fail
    go_ret2
    refine ⟨A', c', l', true, rfl, ?_, hb⟩
    rw [HR.out]
    exact ⟨rfl, ho, hok, HV.out⟩

set_option maxHeartbeats 400000 in
set_option maxRecDepth 100000 in
theorem put_via (A : Option Addr) (c : Nat) (l : List Pr) (key : ByteArray) (n : Int) (w : World) (hA : SV w A c l) (h : Ok l) (hk : keyB key = true) (hn : valB n = true) :
    Calls Tryz.prog 187 #[.slice A l.length c, .string key, .int .i64 n] w fun e w' => ∃ A' c' l', e = .returned (.tuple #[.slice A' (l' : List Pr).length c', .bool true]) ∧ SV w' A' c' l' ∧ Ok l' ∧ valOf l' = upd (valOf l) key n ∧ Below w.heap.size w w' := by
  refine (dput_any A c l key n w hA h hk).mono ?_
  rintro e w' ⟨A', c', l', ok, rfl, hr, hb⟩
  rw [show putV (valOf l) key n = some (upd (valOf l) key n) by simp [putV, hn]] at hr
  obtain ⟨rfl, ho, hok, hv⟩ := hr
  exact ⟨A', c', l', rfl, ho.sv, hok, hv, hb⟩

set_option maxHeartbeats 400000 in
set_option maxRecDepth 100000 in
theorem dmove_any (A : Option Addr) (c : Nat) (l : List Pr) (o : Opr) (w : World) (hA : SV w A c l) (h : Ok l) (hk : keyB o.key = true) (hs : keyB o.src = true) (hn : valB o.n = true) (h0 : 0 ≤ o.n) :
    Calls Tryz.prog 189 #[.slice A l.length c, opV o] w (RetD w w.heap.size (moveV (valOf l) o)) := by
  have hv := valB_iff.1 (h.vb o.src)
  have hn' := valB_iff.1 hn
  have hr : ∀ x, valOf l o.src = x → moveV (valOf l) o = if x < o.n then none else putV (upd (valOf l) o.src (x - o.n)) o.key (upd (valOf l) o.src (x - o.n) o.key + o.n) := by rintro x rfl; rfl
  obtain ⟨kd, key, src, n⟩ := o
  unfold opV
  simp only at hk hs hn hn' h0 hv hr ⊢
  have hr' := hideP hr
  clear hr
  have hb0 := (Below.refl w.heap.size w).alloc (Nat.le_refl _) (.cells #[.int .i64 kd, .string key, .string src, .int .i64 n] 71)
  have hA0 := hA.below hb0
  have hwa : (w.alloc (.cells #[.int .i64 kd, .string key, .string src, .int .i64 n] 71)).heap.size = w.heap.size + 1 := by simp
  clear hA
  go_enter Tryz.func189, Tryz.ntmps189
  go_wp2_with fail
  refine (dget_any A c l src _ hA0 h hs).mono ?_
  rintro e w1 ⟨rfl, hb1⟩
  generalize hx : valOf l src = x at hv ⊢
  have HX := hideP hx
  clear hx
  have hb2 := hb0.trans (hb1.mono hb0.size)
  have hA1 := hA0.below hb1
  have q1 := hb1.cell (p := ⟨w.heap.size, 0, none⟩) (by simp)
  have q2 := hb1.cell (p := ⟨w.heap.size, 0 + 1, none⟩) (by simp)
  have q3 := hb1.cell (p := ⟨w.heap.size, 0 + 2, none⟩) (by simp)
  have q4 := hb1.cell (p := ⟨w.heap.size, 0 + 3, none⟩) (by simp)
  simp at q1 q2 q3 q4
  by_cases hlt : x < n
  · have HL := hideP hlt
    go_wp2_with fail
    go_ret2
    refine ⟨none, 0, [], false, rfl, ?_, hb2⟩
    rw [hr'.out x HX.out, if_pos HL.out]
  · have HL := hideP hlt
    have hxn : valB (x - n) = true := valB_iff.2 (by omega)
    go_wp2_with fail
    refine (put_via A c l src (x - n) _ hA1 h hs hxn).mono ?_
    rintro e w3 ⟨A3, c3, l3, rfl, hA3, hok3, hv3, hb3⟩
    have hy := valB_iff.1 (hok3.vb key)
    have HV3 := hideP hv3
    clear hv3
    have hsz1 := hb1.size
    have g2 := (hb3.cell (p := ⟨w.heap.size, 1, none⟩) (by simp at hsz1 ⊢; omega)).trans q2
    have g4 := (hb3.cell (p := ⟨w.heap.size, 3, none⟩) (by simp at hsz1 ⊢; omega)).trans q4
    have hb4 := hb2.trans (hb3.mono hb2.size)
    have hsz4 := hb3.size
    have hlt4 : w.heap.size < w3.heap.size := by simp at hsz1; omega
    clear hb0 hb1 hb2 hb3 hA0 hA1 q1 q2 q3 q4 hwa hsz1 hsz4
    generalize hgy : valOf l3 key = y at hy
    have hget : ∀ W, SV W A3 c3 l3 → Calls Tryz.prog 188 #[.slice A3 l3.length c3, .string key] W fun e w' => e = .returned (.int .i64 y) ∧ Below W.heap.size W w' := fun W hW => hgy ▸ dget_any A3 c3 l3 key W hW hok3 hk
    have HY := hideP hgy
    clear hgy
    go_wp2_with fail
    have hput : ∀ W, SV W A3 c3 l3 → Calls Tryz.prog 187 #[.slice A3 l3.length c3, .string key, .int .i64 (IntKind.i64.wrap (y + n))] W (RetD W W.heap.size (putV (valOf l3) key (y + n))) := fun W hW => by
      rw [show IntKind.i64.wrap (y + n) = y + n by simp only [IntKind.wrap_i64]; omega]
      exact dput_any A3 c3 l3 key (y + n) W hW hok3 hk
    have k3 : w3.drew.cell? ⟨w.heap.size, 1, none⟩ = some (.string key) ∧ w3.drew.cell? ⟨w.heap.size, 3, none⟩ = some (.int .i64 n) := ⟨g2, g4⟩
    have hA3d := hA3.below ((Below.refl _ _).drew)
    have hlt3 : w.heap.size < w3.drew.heap.size := hlt4
    clear g2 g4 hA3 hlt4
    go_region_held3 (fun w' => w'.cell? ⟨w.heap.size, 1, none⟩ = some (.string key) ∧ w'.cell? ⟨w.heap.size, 3, none⟩ = some (.int .i64 n)) (with_reducible first | exact k3 | exact k5 | exact k6) (first
      | (go_at_call 188; refine (hget _ ?_).mono ?_; exact hA3d; rintro e w5 ⟨rfl, hb5⟩; have k5 := And.intro ((hb5.cell (p := ⟨w.heap.size, 1, none⟩) hlt3).trans k3.1) ((hb5.cell (p := ⟨w.heap.size, 3, none⟩) hlt3).trans k3.2); have hA5 := hA3d.below hb5; have hlt5 : w.heap.size < w5.heap.size := Nat.lt_of_lt_of_le hlt3 hb5.size)
      | (go_at_call 187; refine (hput _ ?_).mono ?_; exact hA5; rintro e w6 ⟨A6, c6, l6, ok6, rfl, hr6, hb6⟩; have k6 := And.intro ((hb6.cell (p := ⟨w.heap.size, 1, none⟩) hlt5).trans k5.1) ((hb6.cell (p := ⟨w.heap.size, 3, none⟩) hlt5).trans k5.2)))
    have HR6 := hideP hr6
    clear hr6
    have hb7 : Below w.heap.size w w5 := hb4.drew.trans (hb5.mono hb4.size)
    have hb8 : Below w.heap.size w w6 := hb7.trans (hb6.mono hb7.size)
    go_wp2_with fail
    go_ret2
    refine ⟨A6, c6, l6, ok6, rfl, ?_, hb8⟩
    have e : upd (valOf l) src (x - n) key = y := by rw [← HV3.out]; exact HY.out
    rw [hr'.out x HX.out, if_neg (by have := HL.out; omega), e, ← HV3.out]
    have := HR6.out
    revert this
    cases putV (valOf l3) key (y + n) with
    | none => exact id
    | some v => exact fun ⟨a, b, d⟩ => ⟨a, b.mono hb7.size, d⟩
end Go.Proofs.YtefdipjhjgmokaaGreatDoor

set_option linter.unusedVariables false
set_option linter.unusedSimpArgs false
namespace Go.Proofs.YtefdipjhjgmokaaGreatDoor
open Go.RowKit

/-- the cells of an operation that was handed over -/
structure OpAt (w : World) (b : Nat) (o : Opr) : Prop where
  lt : b < w.heap.size
  kind : w.cell? ⟨b, 0, none⟩ = some (.int .i64 o.kind)
  key : w.cell? ⟨b, 1, none⟩ = some (.string o.key)
  src : w.cell? ⟨b, 2, none⟩ = some (.string o.src)
  n : w.cell? ⟨b, 3, none⟩ = some (.int .i64 o.n)
theorem OpAt.below {w w' : World} {b : Nat} {o : Opr} (h : OpAt w b o) (hb : Below w.heap.size w w') : OpAt w' b o :=
  ⟨Nat.lt_of_lt_of_le h.lt hb.size, (hb.cell (p := ⟨b, 0, none⟩) h.lt).trans h.kind, (hb.cell (p := ⟨b, 1, none⟩) h.lt).trans h.key, (hb.cell (p := ⟨b, 2, none⟩) h.lt).trans h.src, (hb.cell (p := ⟨b, 3, none⟩) h.lt).trans h.n⟩
theorem OpAt.drew {w : World} {b : Nat} {o : Opr} (h : OpAt w b o) : OpAt w.drew b o := ⟨h.lt, h.kind, h.key, h.src, h.n⟩
theorem OpAt.new (w : World) (o : Opr) (t : TypeId) : OpAt (w.alloc (.cells #[.int .i64 o.kind, .string o.key, .string o.src, .int .i64 o.n] t)) w.heap.size o :=
  ⟨by simp, by simp, by simp, by simp, by simp⟩

theorem OpAt.grown {w w' : World} {b : Nat} {o : Opr} (h : OpAt w b o) {row : Option Nat} (hg : w.grownBy w' row) (hne : some b ≠ row) : OpAt w' b o :=
  ⟨Nat.lt_of_lt_of_le h.lt hg.size, hg.cell h.kind hne, hg.cell h.key hne, hg.cell h.src hne, hg.cell h.n hne⟩
end Go.Proofs.YtefdipjhjgmokaaGreatDoor

set_option linter.unusedVariables false
set_option linter.unusedSimpArgs false
namespace Go.Proofs.YtefdipjhjgmokaaGreatDoor
open Go.RowKit

theorem RetD.mono {w : World} {B B' : Nat} {r : Option VF} {e : Ending} {w' : World} (h : RetD w B r e w') (hB : B' ≤ B) : RetD w B' r e w' := by
  obtain ⟨A, c, l, ok, he, hr, hb⟩ := h
  refine ⟨A, c, l, ok, he, ?_, hb⟩
  revert hr
  cases r with
  | none => exact id
  | some v => exact fun ⟨a, b, d⟩ => ⟨a, b.mono hB, d⟩
theorem RetD.from_ {w0 w : World} {B : Nat} {r : Option VF} {e : Ending} {w' : World} (h : RetD w B r e w') (hb : Below w0.heap.size w0 w) : RetD w0 B r e w' := by
  obtain ⟨A, c, l, ok, he, hr, hb'⟩ := h
  exact ⟨A, c, l, ok, he, hr, hb.trans (hb'.mono hb.size)⟩
set_option maxHeartbeats 400000 in
set_option maxRecDepth 100000 in
theorem step_any (B : Nat) (A : Option Addr) (c : Nat) (l : List Pr) (o : Opr) (w : World) (hO : OV w B A c l) (hB : B ≤ w.heap.size) (h : Ok l) (ho : chkO o = 0) :
    Calls Tryz.prog 150 #[.slice A l.length c, opV o] w (RetD w B (stepV (valOf l) o)) := by
  obtain ⟨h1, h5, hk, hs, hv, hn⟩ := chkO_zero.1 ho
  have hA := hO.sv
  obtain ⟨kd, key, src, n⟩ := o
  have hat := OpAt.new w ⟨kd, key, src, n⟩ 71
  unfold opV
  simp only at h1 h5 hk hs hv hn hat ⊢
  have hb0 := (Below.refl w.heap.size w).alloc (Nat.le_refl _) (.cells #[.int .i64 kd, .string key, .string src, .int .i64 n] 71)
  have hA0 := hA.below hb0
  have hO0 := hO.below hb0
  clear hA hO ho
  rcases (show kd = 1 ∨ kd = 2 ∨ kd = 3 ∨ kd = 4 ∨ kd = 5 by omega) with rfl | rfl | rfl | rfl | rfl
  · have HR := hideP (show stepV (valOf l) ⟨1, key, src, n⟩ = putV (valOf l) key n by simp [stepV])
    clear hv hn hs
    go_enter Tryz.func150, Tryz.ntmps150
    go_wp2_with fail
    refine (dput_any A c l key n _ hA0 h hk).mono ?_
    intro e w1 hr
    obtain ⟨A1, c1, l1, ok1, rfl, hr1, hb1⟩ := (hr.mono (Nat.le_trans hB hb0.size)).from_ hb0
    have HR1 := hideP hr1
    clear hr1 hr
    go_wp2_with fail
    go_ret2
    refine ⟨A1, c1, l1, ok1, rfl, ?_, hb1⟩
    rw [HR.out]
    exact HR1.out
  · have hy := valB_iff.1 (h.vb key)
    have hn' := valB_iff.1 (hv (by decide))
    generalize hgy : valOf l key = y at hy
    have HR := hideP (show stepV (valOf l) ⟨2, key, src, n⟩ = putV (valOf l) key (y + n) by simp [stepV, hgy])
    have hget : ∀ W, SV W A c l → Calls Tryz.prog 188 #[.slice A l.length c, .string key] W fun e w' => e = .returned (.int .i64 y) ∧ Below W.heap.size W w' := fun W hW => hgy ▸ dget_any A c l key W hW h hk
    have hput : ∀ W, SV W A c l → Calls Tryz.prog 187 #[.slice A l.length c, .string key, .int .i64 (IntKind.i64.wrap (y + n))] W (RetD W W.heap.size (putV (valOf l) key (y + n))) := fun W hW => by
      rw [show IntKind.i64.wrap (y + n) = y + n by simp only [IntKind.wrap_i64]; omega]
      exact dput_any A c l key (y + n) W hW h hk
    clear hv hn hs hgy
    go_enter Tryz.func150, Tryz.ntmps150
    go_wp2_with fail
    generalize w.alloc (.cells #[.int .i64 2, .string key, .string src, .int .i64 n] 71) = w0 at hat hb0 hA0 hO0 ⊢
    have k0 := And.intro hat.drew.key hat.drew.n
    have hAd := hA0.below ((Below.refl _ _).drew)
    have hatd := hat.drew
    simp only at k0
    go_region_held3 (fun w' => w'.cell? ⟨w.heap.size, 1, none⟩ = some (.string key) ∧ w'.cell? ⟨w.heap.size, 3, none⟩ = some (.int .i64 n)) (with_reducible first | exact k0 | exact k5 | exact k6) (first
      | (go_at_call 188; refine (hget _ ?_).mono ?_; exact hAd; rintro e w5 ⟨rfl, hb5⟩; have hat5 := hatd.below hb5; have k5 := And.intro hat5.key hat5.n; simp only at k5; have hA5 := hAd.below hb5)
      | (go_at_call 187; refine (hput _ ?_).mono ?_; exact hA5; rintro e w6 ⟨A6, c6, l6, ok6, rfl, hr6, hb6⟩; have hat6 := hat5.below hb6; have k6 := And.intro hat6.key hat6.n; simp only at k6))
    have hb7 : Below w.heap.size w w5 := hb0.drew.trans (hb5.mono hb0.size)
    have hb8 : Below w.heap.size w w6 := hb7.trans (hb6.mono hb7.size)
    have HR6 := hideP (RetD.mono (B' := B) ⟨A6, c6, l6, ok6, rfl, hr6, hb6⟩ (Nat.le_trans hB hb7.size))
    clear hr6
    go_wp2_with fail
    go_ret2
    rw [HR.out]
    exact HR6.out.from_ hb7
  · have hsk := (hs (by decide)).1
    have HR := hideP (show stepV (valOf l) ⟨3, key, src, n⟩ = putV (valOf l) key (valOf l src) by simp [stepV])
    clear hv hn hs
    go_enter Tryz.func150, Tryz.ntmps150
    go_wp2_with fail
    generalize w.alloc (.cells #[.int .i64 3, .string key, .string src, .int .i64 n] 71) = w0 at hat hb0 hA0 hO0 ⊢
    have k0 := And.intro hat.drew.key hat.drew.src
    have hAd := hA0.below ((Below.refl _ _).drew)
    have hatd := hat.drew
    simp only at k0
    go_region_held3 (fun w' => w'.cell? ⟨w.heap.size, 1, none⟩ = some (.string key) ∧ w'.cell? ⟨w.heap.size, 2, none⟩ = some (.string src)) (with_reducible first | exact k0 | exact k5 | exact k6) (first
      | (go_at_call 188; refine (dget_any A c l src _ ?_ h hsk).mono ?_; exact hAd; rintro e w5 ⟨rfl, hb5⟩; have hat5 := hatd.below hb5; have k5 := And.intro hat5.key hat5.src; simp only at k5; have hA5 := hAd.below hb5)
      | (go_at_call 187; refine (dput_any A c l key (valOf l src) _ ?_ h hk).mono ?_; exact hA5; rintro e w6 ⟨A6, c6, l6, ok6, rfl, hr6, hb6⟩; have hat6 := hat5.below hb6; have k6 := And.intro hat6.key hat6.src; simp only at k6))
    have hb7 : Below w.heap.size w w5 := hb0.drew.trans (hb5.mono hb0.size)
    have hb8 : Below w.heap.size w w6 := hb7.trans (hb6.mono hb7.size)
    have HR6 := hideP (RetD.mono (B' := B) ⟨A6, c6, l6, ok6, rfl, hr6, hb6⟩ (Nat.le_trans hB hb7.size))
    clear hr6
    go_wp2_with fail
    go_ret2
    rw [HR.out]
    exact HR6.out.from_ hb7
  · have HR := hideP (show ∀ x, valOf l key = x → stepV (valOf l) ⟨4, key, src, n⟩ = if n ≤ x then some (valOf l) else none by rintro x rfl; simp [stepV])
    clear hv hn hs
    go_enter Tryz.func150, Tryz.ntmps150
    go_wp2_with fail
    generalize w.alloc (.cells #[.int .i64 4, .string key, .string src, .int .i64 n] 71) = w0 at hat hb0 hA0 hO0 ⊢
    have k0 := And.intro hat.drew.key hat.drew.n
    have hAd := hA0.below ((Below.refl _ _).drew)
    have hOd := hO0.below ((Below.refl _ _).drew)
    have hatd := hat.drew
    simp only at k0
    go_region_held3 (fun w' => w'.cell? ⟨w.heap.size, 1, none⟩ = some (.string key) ∧ w'.cell? ⟨w.heap.size, 3, none⟩ = some (.int .i64 n)) (with_reducible first | exact k0 | exact k5) (first
      | (go_at_call 188; refine (dget_any A c l key _ ?_ h hk).mono ?_; exact hAd; rintro e w5 ⟨rfl, hb5⟩; have hat5 := hatd.below hb5; have k5 := And.intro hat5.key hat5.n; simp only at k5; have hA5 := hAd.below hb5))
    have hb7 : Below w.heap.size w w5 := hb0.drew.trans (hb5.mono hb0.size)
    have hO5 := hOd.below hb5
    go_wp2_with fail
    go_ret2
    by_cases hx : n ≤ valOf l key
    · exact ⟨A, c, l, true, by simp [hx], by rw [HR.out _ rfl, if_pos hx]; exact ⟨rfl, hO5, h, rfl⟩, hb7⟩
    · exact ⟨A, c, l, false, by simp [hx], by rw [HR.out _ rfl, if_neg hx], hb7⟩
  · have hsk := (hs (by decide)).1
    have hnv := hv (by decide)
    have hn0 := hn (by decide)
    have HR := hideP (show stepV (valOf l) ⟨5, key, src, n⟩ = moveV (valOf l) ⟨5, key, src, n⟩ by simp [stepV])
    clear hv hn hs
    go_enter Tryz.func150, Tryz.ntmps150
    go_wp2_with fail
    refine (dmove_any A c l ⟨5, key, src, n⟩ _ hA0 h hk hsk hnv hn0).mono ?_
    intro e w1 hr
    obtain ⟨A1, c1, l1, ok1, rfl, hr1, hb1⟩ := (hr.mono (Nat.le_trans hB hb0.size)).from_ hb0
    have HR1 := hideP hr1
    clear hr1 hr
    go_wp2_with fail
    go_ret2
    refine ⟨A1, c1, l1, ok1, rfl, ?_, hb1⟩
    rw [HR.out]
    exact HR1.out
end Go.Proofs.YtefdipjhjgmokaaGreatDoor

set_option linter.unusedVariables false
set_option linter.unusedSimpArgs false
namespace Go.Proofs.YtefdipjhjgmokaaGreatDoor
open Go.RowKit

/-- what Run hands back: the store that is left, in memory of its own, and whether the transaction was executed -/
def RetRun (w : World) (r : VF × Bool) (e : Ending) (w' : World) : Prop :=
  ∃ A c l, e = .returned (.tuple #[.slice A (l : List Pr).length c, .bool r.2, .int .i64 0]) ∧ OV w' w.heap.size A c l ∧ Ok l ∧ valOf l = r.1 ∧ Below w.heap.size w w'
theorem doneV_take {v : VF} {l : List Opr} {k : Nat} {u : VF} (h : k < l.length) (hu : runV v (l.take k) = some u) (hn : stepV u l[k] = none) : doneV v l = (v, false) :=
  doneV_none (runV_none (k := k + 1) (by rw [runV_take h hu, hn]))

/-- while the operations are executed -/
def RunInv (B : Nat) (w4 : World) (v : VF) (d : List Opr) (s i : Value) (wr : World) : Prop :=
  ∃ (k : Nat) (A : Option Addr) (c : Nat) (l : List Pr), k ≤ d.length ∧ i = .int .i64 k ∧ s = .slice A l.length c ∧ OV wr B A c l ∧ Ok l ∧ runV v (d.take k) = some (valOf l) ∧ Below w4.heap.size w4 wr

set_option maxHeartbeats 1000000 in
set_option maxRecDepth 100000 in
theorem run_ok (A D : Option Addr) (c cd : Nat) (l : List Pr) (d : List Opr) (w : World) (hA : SV w A c l) (h : Ok l) (hD : OS w w.heap.size D d) (hd : chkD d = 0) :
    Calls Tryz.prog 101 #[.slice A l.length c, .agg #[.slice D d.length cd]] w (RetRun w (doneV (valOf l) d)) := by
  have hll := h.small
  obtain ⟨hd1, hd8, hdo⟩ := chkD_zero.1 hd
  have HD := hideP hd
  have HC := hideP (chk_ok.2 h)
  clear hd
  have hb0 := (Below.refl w.heap.size w).alloc (Nat.le_refl _) (.cells #[.slice D d.length cd] 40)
  go_enter Tryz.func101, Tryz.ntmps101
  go_wp2_with fail
  have hA0 := hA.below hb0
  have hD0 := hD.go hb0
  have hat : (w.alloc (.cells #[.slice D d.length cd] 40)).cell? ⟨w.heap.size, 0, none⟩ = some (.slice D d.length cd) := by simp
  have hlt : w.heap.size < (w.alloc (.cells #[.slice D d.length cd] 40)).heap.size := by simp
  generalize w.alloc (.cells #[.slice D d.length cd] 40) = w0 at hA0 hD0 hb0 hat hlt ⊢
  refine (check_any A c l _ hA0.ps (by omega)).mono ?_
  rintro e w1 ⟨rfl, hb1⟩
  rw [HC.out]
  have hA1 := hA0.below hb1
  have hD1 := hD0.go hb1
  have hat1 := (hb1.cell (p := ⟨w.heap.size, 0, none⟩) hlt).trans hat
  have hlt1 := Nat.lt_of_lt_of_le hlt hb1.size
  have hb2 := hb0.trans (hb1.mono hb0.size)
  clear hA0 hD0 hat hlt hb0 hb1 hA hD
  go_wp2_with fail
  refine (dcheck_any D cd d _ hD1).mono ?_
  rintro e w2 ⟨rfl, hb3⟩
  rw [HD.out]
  have hA2 := hA1.below hb3
  have hD2 := hD1.go hb3
  have hat2 := (hb3.cell (p := ⟨w.heap.size, 0, none⟩) hlt1).trans hat1
  have hlt2 := Nat.lt_of_lt_of_le hlt1 hb3.size
  have hb4 := hb2.trans (hb3.mono hb2.size)
  clear hA1 hD1 hat1 hlt1 hb2 hb3
  go_wp2_with fail
  refine (concat1 _ _ rfl A _ c l rfl hA2.ps (by omega)).mono ?_
  rintro e w4 ⟨v4, rfl, hown, hb5⟩
  obtain ⟨A4, c4, rfl, hO⟩ := OV.of_own hown
  have hb6 := (Below.refl w2.heap.size w2).alloc (Nat.le_refl _) (.cells #[.slice A l.length c] 36)
  have hb7 := hb6.trans (hb5.mono hb6.size)
  have hA4 := hA2.below hb7
  have hD4 := hD2.go hb7
  have hat4 := (hb7.cell (p := ⟨w.heap.size, 0, none⟩) hlt2).trans hat2
  have hlt4 := Nat.lt_of_lt_of_le hlt2 hb7.size
  have hb8 := hb4.trans (hb7.mono hb4.size)
  have hO4 : OV w4 w.heap.size A4 c4 l := hO.mono (Nat.le_trans hb4.size hb6.size)
  clear hA2 hD2 hat2 hlt2 hb4 hb5 hb6 hb7 hO hown
  go_wp2_with fail
  go_loopw [9, 30] (RunInv w.heap.size w4 (valOf l) d) (fun _ i _ => d.length - (intOf i).toNat)
  case atStart => exact ⟨0, A4, c4, l, Nat.zero_le _, rfl, rfl, hO4, h, rfl, Below.refl _ _⟩
  case round =>
    obtain ⟨k, Ak, ck, lk, hk, rfl, rfl, hOk, hok, hrun, hb⟩ := hrel
    have hRun := hideP hrun
    clear hrun hO4
    by_cases hlt : k < d.length
    · have hchk := hdo _ (List.getElem_mem hlt)
      obtain ⟨b, o, rfl, hbl, q1, q2, q3, q4⟩ := (hD4.below hb) k _ (List.getElem?_eq_getElem hlt)
      have hTake := hideP (fun u (hu : runV (valOf l) (d.take k) = some u) => runV_take hlt hu)
      generalize hgo : d[k] = p at hchk q1 q2 q3 q4
      have HG := hideP hgo
      clear hgo hdo
      have hsz := Nat.le_trans hb8.size hb.size
      have hb9 := hb.alloc hb.size (.cells #[.int .i64 p.kind, .string p.key, .string p.src, .int .i64 p.n] 71)
      have hO9 := hOk.below ((Below.refl _ wr).alloc (Nat.le_refl _) (.cells #[.int .i64 p.kind, .string p.key, .string p.src, .int .i64 p.n] 71))
      go_wp2_with fail
      refine (step_any w.heap.size Ak ck lk p _ hO9 (by simp; omega) hok hchk).mono ?_
      rintro e w5 ⟨A5, c5, l5, ok5, rfl, hr5, hb10⟩
      have hb11 := hb9.trans (hb10.mono hb9.size)
      clear hb9 hb10 hb hO9 hOk
      cases hst : stepV (valOf lk) p with
      | none =>
        rw [hst] at hr5
        obtain rfl : ok5 = false := hr5
        have HF := hideP (doneV_take hlt hRun.out (by rw [HG.out]; exact hst))
        clear hst
        have hA5 := hA4.below hb11
        have hb12 := hb8.trans (hb11.mono hb8.size)
        go_wp2_with fail
        refine (concat1 _ _ rfl A _ c l rfl hA5.ps (by omega)).mono ?_
        rintro e w6 ⟨v6, rfl, hown6, hb13⟩
        obtain ⟨A6, c6, rfl, hO6⟩ := OV.of_own hown6
        have hb14 := (hb12.alloc hb12.size (.cells #[.slice A l.length c] 36))
        have hO7 : OV w6 w.heap.size A6 c6 l := hO6.mono hb14.size
        have hb15 := hb14.trans (hb13.mono hb14.size)
        clear hown6 hO6 hb13 hb14 hb12
        go_wp2_with fail
        go_ret3
        exact ⟨A6, c6, l, by rw [HF.out]; rfl, hO7, h, by rw [HF.out], hb15⟩
      | some u =>
        rw [hst] at hr5
        obtain ⟨rfl, hO5, hok5, hv5⟩ := hr5
        have HV := hideP (show runV (valOf l) (d.take (k + 1)) = some (valOf l5) by rw [hTake.out _ hRun.out, HG.out, hst, hv5])
        clear hst hv5
        go_wp2_with fail
        go_roundw
        case rel => exact ⟨k + 1, A5, c5, l5, by omega, by go_num, rfl, hO5, hok5, HV.out, hb11⟩
        case measure => simp [intOf]; omega
    · have HF := hideP (show doneV (valOf l) d = (valOf lk, true) from doneV_some (by rw [← hRun.out, List.take_of_length_le (by omega)]))
      have hb12 := hb8.trans (hb.mono hb8.size)
      go_wp2_with fail
      go_ret3
      exact ⟨Ak, ck, lk, by rw [HF.out]; rfl, hOk, hok, by rw [HF.out], hb12⟩

/-- what Run answers where something is wrong -/
def chkR (l : List Pr) (d : List Opr) : Int := if chk ByteArray.empty l = 0 then chkD d else chk ByteArray.empty l
set_option maxHeartbeats 400000 in
set_option maxRecDepth 100000 in
theorem run_bad (A D : Option Addr) (c cd : Nat) (l : List Pr) (d : List Opr) (w : World) (hA : SV w A c l) (hl : l.length < 4611686018427387904) (hD : OS w w.heap.size D d) (h : chkR l d ≠ 0) :
    Calls Tryz.prog 101 #[.slice A l.length c, .agg #[.slice D d.length cd]] w fun e w' => e = .returned (.tuple #[.slice none 0 0, .bool false, .int .i64 (chkR l d)]) ∧ Below w.heap.size w w' := by
  have hb0 := (Below.refl w.heap.size w).alloc (Nat.le_refl _) (.cells #[.slice D d.length cd] 40)
  have hA0 := hA.below hb0
  have hD0 := hD.go hb0
  have hat : (w.alloc (.cells #[.slice D d.length cd] 40)).cell? ⟨w.heap.size, 0, none⟩ = some (.slice D d.length cd) := by simp
  have hlt : w.heap.size < (w.alloc (.cells #[.slice D d.length cd] 40)).heap.size := by simp
  clear hA hD
  by_cases hC : chk ByteArray.empty l = 0
  · have HC := hideP hC
    have HR := hideP (show chkR l d = chkD d by simp [chkR, hC])
    have d0 : (chkD d != 0) = true := by simp [chkR, hC] at h; simp [h]
    clear h hC
    generalize hq : chkD d = q at d0
    have HQ := hideP hq
    clear hq
    go_enter Tryz.func101, Tryz.ntmps101
    go_wp2_with fail
    generalize w.alloc (.cells #[.slice D d.length cd] 40) = w0 at hA0 hD0 hb0 hat hlt ⊢
    refine (check_any A c l _ hA0.ps hl).mono ?_
    rintro e w1 ⟨rfl, hb1⟩
    rw [HC.out]
    have hD1 := hD0.go hb1
    have hat1 := (hb1.cell (p := ⟨w.heap.size, 0, none⟩) hlt).trans hat
    have hb2 := hb0.trans (hb1.mono hb0.size)
    clear hA0 hD0 hat hlt hb0 hb1
    go_wp2_with fail
    refine (dcheck_any D cd d _ hD1).mono ?_
    rintro e w2 ⟨rfl, hb3⟩
    rw [HQ.out]
    have hb4 := hb2.trans (hb3.mono hb2.size)
    go_wp2_with fail
    go_ret3
    exact ⟨by rw [HR.out, HQ.out]; rfl, hb4⟩
  · have HR := hideP (show chkR l d = chk ByteArray.empty l by simp [chkR, hC])
    have d0 : (chk ByteArray.empty l != 0) = true := by simp [hC]
    clear h hC
    generalize hq : chk ByteArray.empty l = q at d0
    have HQ := hideP hq
    clear hq
    go_enter Tryz.func101, Tryz.ntmps101
    go_wp2_with fail
    refine (check_any A c l _ hA0.ps hl).mono ?_
    rintro e w1 ⟨rfl, hb1⟩
    rw [HQ.out]
    have hb2 := hb0.trans (hb1.mono hb0.size)
    go_wp2_with fail
    go_ret3
    exact ⟨by rw [HR.out, HQ.out]; rfl, hb2⟩
end Go.Proofs.YtefdipjhjgmokaaGreatDoor
