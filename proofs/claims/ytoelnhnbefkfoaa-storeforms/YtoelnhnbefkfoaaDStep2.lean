/-
  deed.step.
-/
import Derived.Test.YtoelnhnbefkfoaaDStep
import Derived.Test.YtoelnhnbefkfoaaOpAt
set_option linter.unusedVariables false
set_option linter.unusedSimpArgs false
namespace Go.Proofs.Ytoelnhnbefkfoaa
open Go.RowKit

theorem RetD.mono {w : World} {B B' : Nat} {r : Option VF} {e : Ending} {w' : World} (h : RetD w B r e w') (hB : B' ≤ B) : RetD w B' r e w' := by
  obtain ⟨A, c, l, ok, he, hr, hb⟩ := h
  refine ⟨A, c, l, ok, he, ?_, hb⟩
  revert hr
  cases r with
  | none => exact id
  | some v => exact fun ⟨a, b, d⟩ => ⟨a, b.mono hB, d⟩
theorem RetD.from_ {w0 w : World} {B : Nat} {r : Option VF} {e : Ending} {w' : World} (h : RetD w B r e w') (hb : Below w0.heap.size w0 w) : RetD w0 B r e w' := by
  obtain ⟨A, c, l, ok, he, hr, hb'⟩ := h
  exact ⟨A, c, l, ok, he, hr, hb.trans (hb'.mono hb.size)⟩
set_option maxHeartbeats 400000 in
set_option maxRecDepth 100000 in
theorem step_any (B : Nat) (A : Option Addr) (c : Nat) (l : List Pr) (o : Opr) (w : World) (hO : OV w B A c l) (hB : B ≤ w.heap.size) (h : Ok l) (ho : chkO o = 0) :
    Calls Try.prog 56 #[.slice A l.length c, opV o] w (RetD w B (stepV (valOf l) o)) := by
  obtain ⟨h1, h5, hk, hs, hv, hn⟩ := chkO_zero.1 ho
  have hA := hO.sv
  obtain ⟨kd, key, src, n⟩ := o
  have hat := OpAt.new w ⟨kd, key, src, n⟩ 85
  unfold opV
  simp only at h1 h5 hk hs hv hn hat ⊢
  have hb0 := (Below.refl w.heap.size w).alloc (Nat.le_refl _) (.cells #[.int .i64 kd, .string key, .string src, .int .i64 n] 85)
  have hA0 := hA.below hb0
  have hO0 := hO.below hb0
  clear hA hO ho
  rcases (show kd = 1 ∨ kd = 2 ∨ kd = 3 ∨ kd = 4 ∨ kd = 5 by omega) with rfl | rfl | rfl | rfl | rfl
  · have HR := hideP (show stepV (valOf l) ⟨1, key, src, n⟩ = putV (valOf l) key n by simp [stepV])
    clear hv hn hs
    go_enter Try.func56, Try.ntmps56
    go_wp2_with fail
    refine (dput_any A c l key n _ hA0 h hk).mono ?_
    intro e w1 hr
    obtain ⟨A1, c1, l1, ok1, rfl, hr1, hb1⟩ := (hr.mono (Nat.le_trans hB hb0.size)).from_ hb0
    have HR1 := hideP hr1
    clear hr1 hr
    go_wp2_with fail
    go_ret2
    refine ⟨A1, c1, l1, ok1, rfl, ?_, hb1⟩
    rw [HR.out]
    exact HR1.out
  · have hy := valB_iff.1 (h.vb key)
    have hn' := valB_iff.1 (hv (by decide))
    generalize hgy : valOf l key = y at hy
    have HR := hideP (show stepV (valOf l) ⟨2, key, src, n⟩ = putV (valOf l) key (y + n) by simp [stepV, hgy])
    have hget : ∀ W, SV W A c l → Calls Try.prog 65 #[.slice A l.length c, .string key] W fun e w' => e = .returned (.int .i64 y) ∧ Below W.heap.size W w' := fun W hW => hgy ▸ dget_any A c l key W hW h hk
    have hput : ∀ W, SV W A c l → Calls Try.prog 64 #[.slice A l.length c, .string key, .int .i64 (IntKind.i64.wrap (y + n))] W (RetD W W.heap.size (putV (valOf l) key (y + n))) := fun W hW => by
      rw [show IntKind.i64.wrap (y + n) = y + n by simp only [IntKind.wrap_i64]; omega]
      exact dput_any A c l key (y + n) W hW h hk
    clear hv hn hs hgy
    go_enter Try.func56, Try.ntmps56
    go_wp2_with fail
    generalize w.alloc (.cells #[.int .i64 2, .string key, .string src, .int .i64 n] 85) = w0 at hat hb0 hA0 hO0 ⊢
    have k0 := And.intro hat.drew.key hat.drew.n
    have hAd := hA0.below ((Below.refl _ _).drew)
    have hatd := hat.drew
    simp only at k0
    go_region_held3 (fun w' => w'.cell? ⟨w.heap.size, 1, none⟩ = some (.string key) ∧ w'.cell? ⟨w.heap.size, 3, none⟩ = some (.int .i64 n)) (with_reducible first | exact k0 | exact k5 | exact k6) (first
      | (go_at_call 65; refine (hget _ ?_).mono ?_; exact hAd; rintro e w5 ⟨rfl, hb5⟩; have hat5 := hatd.below hb5; have k5 := And.intro hat5.key hat5.n; simp only at k5; have hA5 := hAd.below hb5)
      | (go_at_call 64; refine (hput _ ?_).mono ?_; exact hA5; rintro e w6 ⟨A6, c6, l6, ok6, rfl, hr6, hb6⟩; have hat6 := hat5.below hb6; have k6 := And.intro hat6.key hat6.n; simp only at k6))
    have hb7 : Below w.heap.size w w5 := hb0.drew.trans (hb5.mono hb0.size)
    have hb8 : Below w.heap.size w w6 := hb7.trans (hb6.mono hb7.size)
    have HR6 := hideP (RetD.mono (B' := B) ⟨A6, c6, l6, ok6, rfl, hr6, hb6⟩ (Nat.le_trans hB hb7.size))
    clear hr6
    go_wp2_with fail
    go_ret2
    rw [HR.out]
    exact HR6.out.from_ hb7
  · have hsk := (hs (by decide)).1
    have HR := hideP (show stepV (valOf l) ⟨3, key, src, n⟩ = putV (valOf l) key (valOf l src) by simp [stepV])
    clear hv hn hs
    go_enter Try.func56, Try.ntmps56
    go_wp2_with fail
    generalize w.alloc (.cells #[.int .i64 3, .string key, .string src, .int .i64 n] 85) = w0 at hat hb0 hA0 hO0 ⊢
    have k0 := And.intro hat.drew.key hat.drew.src
    have hAd := hA0.below ((Below.refl _ _).drew)
    have hatd := hat.drew
    simp only at k0
    go_region_held3 (fun w' => w'.cell? ⟨w.heap.size, 1, none⟩ = some (.string key) ∧ w'.cell? ⟨w.heap.size, 2, none⟩ = some (.string src)) (with_reducible first | exact k0 | exact k5 | exact k6) (first
      | (go_at_call 65; refine (dget_any A c l src _ ?_ h hsk).mono ?_; exact hAd; rintro e w5 ⟨rfl, hb5⟩; have hat5 := hatd.below hb5; have k5 := And.intro hat5.key hat5.src; simp only at k5; have hA5 := hAd.below hb5)
      | (go_at_call 64; refine (dput_any A c l key (valOf l src) _ ?_ h hk).mono ?_; exact hA5; rintro e w6 ⟨A6, c6, l6, ok6, rfl, hr6, hb6⟩; have hat6 := hat5.below hb6; have k6 := And.intro hat6.key hat6.src; simp only at k6))
    have hb7 : Below w.heap.size w w5 := hb0.drew.trans (hb5.mono hb0.size)
    have hb8 : Below w.heap.size w w6 := hb7.trans (hb6.mono hb7.size)
    have HR6 := hideP (RetD.mono (B' := B) ⟨A6, c6, l6, ok6, rfl, hr6, hb6⟩ (Nat.le_trans hB hb7.size))
    clear hr6
    go_wp2_with fail
    go_ret2
    rw [HR.out]
    exact HR6.out.from_ hb7
  · have HR := hideP (show ∀ x, valOf l key = x → stepV (valOf l) ⟨4, key, src, n⟩ = if n ≤ x then some (valOf l) else none by rintro x rfl; simp [stepV])
    clear hv hn hs
    go_enter Try.func56, Try.ntmps56
    go_wp2_with fail
    generalize w.alloc (.cells #[.int .i64 4, .string key, .string src, .int .i64 n] 85) = w0 at hat hb0 hA0 hO0 ⊢
    have k0 := And.intro hat.drew.key hat.drew.n
    have hAd := hA0.below ((Below.refl _ _).drew)
    have hOd := hO0.below ((Below.refl _ _).drew)
    have hatd := hat.drew
    simp only at k0
    go_region_held3 (fun w' => w'.cell? ⟨w.heap.size, 1, none⟩ = some (.string key) ∧ w'.cell? ⟨w.heap.size, 3, none⟩ = some (.int .i64 n)) (with_reducible first | exact k0 | exact k5) (first
      | (go_at_call 65; refine (dget_any A c l key _ ?_ h hk).mono ?_; exact hAd; rintro e w5 ⟨rfl, hb5⟩; have hat5 := hatd.below hb5; have k5 := And.intro hat5.key hat5.n; simp only at k5; have hA5 := hAd.below hb5))
    have hb7 : Below w.heap.size w w5 := hb0.drew.trans (hb5.mono hb0.size)
    have hO5 := hOd.below hb5
    go_wp2_with fail
    go_ret2
    by_cases hx : n ≤ valOf l key
    · exact ⟨A, c, l, true, by simp [hx], by rw [HR.out _ rfl, if_pos hx]; exact ⟨rfl, hO5, h, rfl⟩, hb7⟩
    · exact ⟨A, c, l, false, by simp [hx], by rw [HR.out _ rfl, if_neg hx], hb7⟩
  · have hsk := (hs (by decide)).1
    have hnv := hv (by decide)
    have hn0 := hn (by decide)
    have HR := hideP (show stepV (valOf l) ⟨5, key, src, n⟩ = moveV (valOf l) ⟨5, key, src, n⟩ by simp [stepV])
    clear hv hn hs
    go_enter Try.func56, Try.ntmps56
    go_wp2_with fail
    refine (dmove_any A c l ⟨5, key, src, n⟩ _ hA0 h hk hsk hnv hn0).mono ?_
    intro e w1 hr
    obtain ⟨A1, c1, l1, ok1, rfl, hr1, hb1⟩ := (hr.mono (Nat.le_trans hB hb0.size)).from_ hb0
    have HR1 := hideP hr1
    clear hr1 hr
    go_wp2_with fail
    go_ret2
    refine ⟨A1, c1, l1, ok1, rfl, ?_, hb1⟩
    rw [HR.out]
    exact HR1.out
end Go.Proofs.Ytoelnhnbefkfoaa
