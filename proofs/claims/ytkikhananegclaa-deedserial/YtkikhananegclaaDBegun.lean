/-
  rokeep.run and rokeep.deedBegun.
-/
import Derived.Test.YtkikhananegclaaDRun
import Derived.Test.YtkikhananegclaaEqual
import Derived.Test.YtkikhananegclaaLits
import Derived.Test.YtkikhananegclaaRDeeds
import Derived.Test.YtkikhananegclaaDPure
set_option linter.unusedVariables false
set_option linter.unusedSimpArgs false
namespace Go.Proofs.Ytkikhananegclaa
open Go.RowKit

/-- what run hands back -/
def RetRun3 (w : World) (r : VF × Bool) (e : Ending) (w' : World) : Prop :=
  ∃ A c l, e = .returned (.tuple #[.slice A (l : List Pr).length c, .bool r.2, .bool true]) ∧ OV w' w.heap.size A c l ∧ Ok l ∧ valOf l = r.1 ∧ Below w.heap.size w w'
set_option maxHeartbeats 400000 in
set_option maxRecDepth 100000 in
theorem rrun_ok (A D : Option Addr) (c cd : Nat) (l : List Pr) (d : List Opr) (w : World) (hA : SV w A c l) (h : Ok l) (hD : OS w w.heap.size D d) (hd : chkD d = 0) :
    Calls Try.prog 11 #[.slice A l.length c, .agg #[.slice D d.length cd]] w (RetRun3 w (doneV (valOf l) d)) := by
  have hb0 := (Below.refl w.heap.size w).alloc (Nat.le_refl _) (.cells #[.slice D d.length cd] 31)
  have hA0 := hA.below hb0
  have hD0 := hD.go hb0
  go_enter Try.func11, Try.ntmps11
  go_wp2_with fail
  refine (run_ok A D c cd l d _ hA0 h hD0 hd).mono ?_
  rintro e w1 ⟨A1, c1, l1, rfl, hO, hok, hv, hb1⟩
  have HV := hideP hv
  have hb2 := hb0.trans (hb1.mono hb0.size)
  have hO2 := hO.mono hb0.size
  clear hv
  go_wp2_with fail
  go_ret3
  exact ⟨A1, c1, l1, rfl, hO2, hok, HV.out, hb2⟩

def ka : ByteArray := ⟨#[97]⟩
def kb : ByteArray := ⟨#[98]⟩
theorem ka_ok : keyB ka = true := by decide +kernel
theorem kb_ok : keyB kb = true := by decide +kernel
theorem ka_kb : ka ≠ kb := fun e => by have := congrArg (fun x : ByteArray => x.data.toList) e; simp [ka, kb] at this
theorem ab_ok : Ok [(ka, 3), (kb, 2)] := chk_ok.1 (by decide +kernel)
theorem a_ok : Ok [(ka, 5)] := chk_ok.1 (by decide +kernel)
theorem begun_done : doneV (valOf [(ka, 5)]) [⟨5, kb, ka, 2⟩] = (valOf [(ka, 3), (kb, 2)], true) := by
  have e1 : valOf [(ka, 5)] ka = 5 := valOf_mem a_ok.srt (p := (ka, 5)) (by simp)
  have e2 : valOf [(ka, 5)] kb = 0 := valOf_none fun p hp e => by simp at hp; rw [hp] at e; exact ka_kb e
  have hs : runV (valOf [(ka, 5)]) [⟨5, kb, ka, 2⟩] = some (valOf [(ka, 3), (kb, 2)]) := by
    rw [runV_cons]
    have : stepV (valOf [(ka, 5)]) ⟨5, kb, ka, 2⟩ = some (valOf [(ka, 3), (kb, 2)]) := by
      unfold stepV moveV
      simp only [e1]
      rw [upd_other _ _ (fun e => ka_kb e.symm), e2]
      rw [if_neg (by decide), if_neg (by decide), if_neg (by decide), if_neg (by decide), if_neg (by decide), putV_ok (by decide)]
      congr 1
      funext j
      by_cases h1 : j = kb
      · subst h1; rw [upd_same]; exact (valOf_mem ab_ok.srt (p := (kb, 2)) (by simp)).symm
      · rw [upd_other _ _ h1]
        by_cases h2 : j = ka
        · subst h2; rw [upd_same]; exact (valOf_mem ab_ok.srt (p := (ka, 3)) (by simp)).symm
        · rw [upd_other _ _ h2, valOf_none, valOf_none]
          · intro p hp e; simp at hp; rcases hp with hp | hp <;> (rw [hp] at e; first | exact h2 e.symm | exact h1 e.symm)
          · intro p hp e; simp at hp; rw [hp] at e; exact h2 e.symm
    rw [this]; rfl
  exact doneV_some hs

theorem OS.one (w : World) (o : Opr) (t : TypeId) : OS (w.alloc (.cells #[.int .i64 o.kind, .string o.key, .string o.src, .int .i64 o.n] t)) (w.alloc (.cells #[.int .i64 o.kind, .string o.key, .string o.src, .int .i64 o.n] t)).heap.size (some ⟨w.heap.size, 0, none⟩) [o] := fun i p hp => by
  cases i with
  | zero => simp at hp; subst hp; exact ⟨w.heap.size, 0, rfl, by simp, by simp, by simp, by simp, by simp⟩
  | succ i => simp at hp

theorem OS.one_at (w W : World) (o : Opr) (t : TypeId) (hW : W = w.alloc (.cells #[.int .i64 o.kind, .string o.key, .string o.src, .int .i64 o.n] t)) (g : Nat) (hg : g = w.heap.size) : OS W W.heap.size (some ⟨g, 0, none⟩) [o] := by
  subst hW; subst hg; exact OS.one w o t

set_option maxHeartbeats 400000 in
set_option maxRecDepth 100000 in
theorem dbegun_any (w : World) : Calls Try.prog 8 #[] w fun e w' => e = .returned (.bool true) ∧ Below w.heap.size w w' := by
  go_enter Try.func8, Try.ntmps8
  go_wp2_with fail
  have h1 : SV (w.alloc (.cells #[.string ⟨#[97]⟩, .int .i64 5] 40)) (some ⟨w.heap.size, 0, none⟩) 1 [(ka, 5)] := SV.lit1 w ka 5 _
  have hd := OS.one_at (w.alloc (.cells #[.string ⟨#[97]⟩, .int .i64 5] 40)) ((w.alloc (.cells #[.string ⟨#[97]⟩, .int .i64 5] 40)).alloc (.cells #[.int .i64 5, .string ⟨#[98]⟩, .string ⟨#[97]⟩, .int .i64 2] 52)) ⟨5, kb, ka, 2⟩ 52 rfl (w.heap.size + 1) (by simp)
  have h2 := h1.below ((Below.refl _ _).alloc (Nat.le_refl _) (.cells #[.int .i64 5, .string ⟨#[98]⟩, .string ⟨#[97]⟩, .int .i64 2] 52))
  have hb0 := ((Below.refl w.heap.size w).alloc (Nat.le_refl _) (.cells #[.string ⟨#[97]⟩, .int .i64 5] 40)).alloc (by simp) (.cells #[.int .i64 5, .string ⟨#[98]⟩, .string ⟨#[97]⟩, .int .i64 2] 52)
  clear h1
  generalize (w.alloc (.cells #[.string ⟨#[97]⟩, .int .i64 5] 40)).alloc (.cells #[.int .i64 5, .string ⟨#[98]⟩, .string ⟨#[97]⟩, .int .i64 2] 52) = w0 at hd h2 hb0 ⊢
  refine (run_ok _ _ 1 1 [(ka, 5)] [⟨5, kb, ka, 2⟩] _ h2 a_ok hd (by decide +kernel)).mono ?_
  rw [begun_done]
  rintro e w1 ⟨A1, c1, l1, rfl, hO, hok, hv, hb1⟩
  obtain rfl := hok.ext ab_ok (fun k => by rw [hv])
  have hb2 := hb0.trans (hb1.mono hb0.size)
  clear hv hb0 hb1 hd h2
  go_wp2_with fail
  have h3 : SV (w1.alloc (.cells #[.string ⟨#[97]⟩, .int .i64 3, .string ⟨#[98]⟩, .int .i64 2] 40)) (some ⟨w1.heap.size, 0, none⟩) 2 [(ka, 3), (kb, 2)] := SV.lit2 w1 ka kb 3 2 _
  have h4 := hO.sv.below ((Below.refl _ _).alloc (Nat.le_refl _) (.cells #[.string ⟨#[97]⟩, .int .i64 3, .string ⟨#[98]⟩, .int .i64 2] 40))
  have hb3 := hb2.alloc hb2.size (.cells #[.string ⟨#[97]⟩, .int .i64 3, .string ⟨#[98]⟩, .int .i64 2] 40)
  refine (equal_same _ _ _ _ [(ka, 3), (kb, 2)] _ h4.ps h3.ps (by simp)).mono ?_
  rintro e w2 ⟨rfl, hb4⟩
  have hb5 := hb3.trans (hb4.mono hb3.size)
  go_wp2_with fail
  go_ret
  exact ⟨rfl, hb5⟩
end Go.Proofs.Ytkikhananegclaa
