/-
  Literals in memory (no body of the program in it).
  rokeep.planBegun.
-/
import Derived.Test.YtgcnbifgnaepnaaGreatBd9
import Derived.Test.YtgcnbifgnaepnaaGreatBd1
import Derived.Test.YtgcnbifgnaepnaaGreatBd38
set_option linter.unusedVariables false
set_option linter.unusedSimpArgs false
namespace Go.Proofs.YtgcnbifgnaepnaaGreat
open Go.RowKit

theorem OS.lit1 (w W : World) (o : Opr) (t : TypeId) (hW : W = w.alloc (.cells #[.int .i64 o.kind, .string o.key, .string o.src, .int .i64 o.n] t)) (g : Nat) (hg : g = w.heap.size) : OS W W.heap.size (some ⟨g, 0, none⟩) [o] := by
  subst hW; subst hg
  intro i p hp
  cases i with
  | zero => simp at hp; subst hp; exact ⟨w.heap.size, 0, rfl, by simp, by simp, by simp, by simp, by simp⟩
  | succ i => simp at hp
theorem VS.lit0 (w : World) (t : TypeId) : VS (w.alloc (.cells #[.int .i64 0] t)) (some ⟨w.heap.size, 0, none⟩) (nV [0]) := fun i v hv => by
  cases i with
  | zero => simp [nV] at hv; subst hv; exact ⟨w.heap.size, 0, rfl, by simp, by simp⟩
  | succ i => simp [nV] at hv

end Go.Proofs.YtgcnbifgnaepnaaGreat

set_option linter.unusedVariables false
set_option linter.unusedSimpArgs false
namespace Go.Proofs.YtgcnbifgnaepnaaGreat
open Go.RowKit Go.WideMaps Go.Maps

def kA : ByteArray := ⟨#[97]⟩
def oS : Opr := ⟨1, kA, ⟨#[]⟩, 5⟩
theorem kA5_ok : Ok [(kA, 5)] := chk_ok.1 (by decide +kernel)
theorem oS_next : nextO [[oS]] [] [] = 0 := by decide +kernel
theorem oS_chk : chkP [[oS]] = 0 := by decide +kernel
theorem oS_done (v : VF) (hv : v = valOf []) : doneV v [oS] = (valOf [(kA, 5)], true) := by
  subst hv
  have hs : runV (valOf []) [oS] = some (valOf [(kA, 5)]) := by
    rw [runV_cons]
    have : stepV (valOf []) oS = some (valOf [(kA, 5)]) := by
      unfold stepV oS
      rw [if_pos rfl, putV_ok (by decide)]
      congr 1
      funext j
      by_cases h1 : j = kA
      · subst h1; rw [upd_same]; exact (valOf_mem kA5_ok.srt (p := (kA, 5)) (by simp)).symm
      · rw [upd_other _ _ h1, valOf_none, valOf_none]
        · intro p hp e; simp at hp; rw [hp] at e; exact h1 e.symm
        · intro p hp; cases hp
    rw [this]; rfl
  exact doneV_some hs
theorem oS_play : plS [[oS]] [] (valOf []) 1 = (valOf [(kA, 5)], [true]) := by
  have h : plS [[oS]] [] (valOf []) 1 = ((doneV (valOf []) ([[oS]].getD (nextO [[oS]] [] []) [])).1, [false].set (nextO [[oS]] [] []) (doneV (valOf []) ([[oS]].getD (nextO [[oS]] [] []) [])).2) := rfl
  rw [h, oS_next]
  show ((doneV (valOf []) [oS]).1, [(doneV (valOf []) [oS]).2]) = _
  rw [oS_done _ rfl]
theorem oS_order : playN [[oS]] [] 1 = [0] := by
  have h : playN [[oS]] [] 1 = [nextO [[oS]] [] []] := rfl
  rw [h, oS_next]
/-- a transaction of one operation, as a literal -/
theorem DS.lit1 (w : World) (o : Opr) (t u : TypeId) :
    DS ((w.alloc (.cells #[.int .i64 o.kind, .string o.key, .string o.src, .int .i64 o.n] t)).alloc (.cells #[.slice (some ⟨w.heap.size, 0, none⟩) 1 1] u))
      (some ⟨w.heap.size + 1, 0, none⟩) [⟨some ⟨w.heap.size, 0, none⟩, 1, [o]⟩] := by
  have h1 := OS.lit1 w _ o t rfl w.heap.size rfl
  generalize hW : w.alloc (.cells #[.int .i64 o.kind, .string o.key, .string o.src, .int .i64 o.n] t) = W at h1 ⊢
  have hs : W.heap.size = w.heap.size + 1 := by rw [← hW]; simp
  have b2 := (Below.refl W.heap.size W).alloc (Nat.le_refl _) (.cells #[.slice (some ⟨w.heap.size, 0, none⟩) 1 1] u)
  refine ⟨fun i v hv => ?_, fun x hx => ?_⟩
  · rw [← hs]
    rcases i with _ | i
    · simp [dlV] at hv; subst hv; exact ⟨W.heap.size, 0, rfl, by simp, by simp⟩
    · simp at hv
  · rw [List.mem_singleton.1 hx]; exact h1.go b2
/-- the first call of Play -/
theorem play_lit (w : World) : Calls Tryz.prog 8 #[.slice none 0 0, .slice (some ⟨w.heap.size + 1, 0, none⟩) 1 1, .slice none 0 0] ((w.alloc (.cells #[.int .i64 1, .string ⟨#[97]⟩, .string ⟨#[]⟩, .int .i64 5] 47)).alloc (.cells #[.slice (some ⟨w.heap.size, 0, none⟩) 1 1] 45))
    fun e w' => ∃ A c gx A2 c2, e = .returned (.tuple #[.slice A 1 c, .slice (some ⟨gx, 0, none⟩) 1 1, .slice A2 1 c2, .int .i64 0]) ∧ VS w' (some ⟨gx, 0, none⟩) ([true].map Value.bool) ∧ VS w' A2 (nV [0]) ∧ Below w.heap.size w w' := by
  have hb0 := ((Below.refl w.heap.size w).alloc (Nat.le_refl _) (.cells #[.int .i64 1, .string ⟨#[97]⟩, .string ⟨#[]⟩, .int .i64 5] 47)).alloc (by simp) (.cells #[.slice (some ⟨w.heap.size, 0, none⟩) 1 1] 45)
  refine (play_ok none (some ⟨w.heap.size + 1, 0, none⟩) none 0 1 0 [] _ [] _ (SV.nil _) Ok.nil (DS.lit1 w oS 47 45) oS_chk IS.nil (by simp)).mono ?_
  rintro e w1 ⟨A, c, l, gx, A2, c2, he, hov, hok, hv, hex, hor, hb1⟩
  have hv' : valOf l = valOf [(kA, 5)] := hv.trans (congrArg Prod.fst oS_play)
  obtain rfl := hok.ext kA5_ok (fun k => by rw [hv'])
  refine ⟨A, c, gx, A2, c2, he, ?_, ?_, hb0.trans (hb1.mono hb0.size)⟩
  · have h : VS w1 (some ⟨gx, 0, none⟩) ((plS [[oS]] [] (valOf []) 1).2.map Value.bool) := hex.vs
    rw [oS_play] at h
    exact h
  · have h : VS w1 A2 (nV (playN [[oS]] [] 1)) := hor.vs
    rw [oS_order] at h
    exact h
end Go.Proofs.YtgcnbifgnaepnaaGreat
