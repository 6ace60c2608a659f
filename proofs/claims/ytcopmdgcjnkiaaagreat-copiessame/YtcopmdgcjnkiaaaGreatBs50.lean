/-
  What entries make of a store, a map and a list of results, done one by one by the law itself (no body of the program in it).
  rokeep.run.
  Rows that make lays, a slice cut short.
  The first entries of a slice.
-/
import Derived.Test.YtcopmdgcjnkiaaaGreatBs40
import Derived.Test.YtcopmdgcjnkiaaaGreatBs31
import Derived.Test.YtcopmdgcjnkiaaaGreatBs2
import Derived.Laws.MakeOwn
import Derived.WalkKit
import Derived.WalkSpells
import Derived.WalkLawsBesides
import Derived.Test.YtcopmdgcjnkiaaaGreatBs4
set_option linter.unusedVariables false
set_option linter.unusedSimpArgs false
namespace Go.Proofs.YtcopmdgcjnkiaaaGreat
open Go.RowKit

theorem SV.fr {F : Nat → Prop} {w w' : World} {A : Option Addr} {c : Nat} {l : List Pr} (h : SV w A c l) (hf : Fr F w w') (hn : l ≠ [] → ∀ a, A = some a → ¬ F a.block) : SV w' A c l :=
  ⟨fun i p hp => by
    obtain ⟨b, o, e, hlt, h1, h2⟩ := h.ps i p hp
    have hl : l ≠ [] := fun e => by rw [e] at hp; simp at hp
    have hk := hf.block b hlt (hn hl _ e)
    have hc : ∀ {o' : Nat}, w'.cell? ⟨b, o', none⟩ = w.cell? ⟨b, o', none⟩ := by
      intro o'
      simp only [World.cell?]
      rw [hk]
    exact ⟨b, o, e, Nat.lt_of_lt_of_le hlt hf.size, hc.trans h1, hc.trans h2⟩, h.le, h.cap, h.none_, h.lit⟩
theorem SV.blk_lt {w : World} {A : Option Addr} {c : Nat} {l : List Pr} (h : SV w A c l) (hl : l ≠ []) {a : Addr} (ha : A = some a) : a.block < w.heap.size := by
  cases l with
  | nil => exact absurd rfl hl
  | cons p r =>
    obtain ⟨b, o, e, hlt, _⟩ := h.ps 0 p rfl
    rw [ha] at e
    injection e with e
    subst e
    exact hlt
/-- while entries are executed one by one -/
structure RepH (wi : World) (r0 : Sr) (es : List Ent) (gm k : Nat) (A : Option Addr) (c : Nat) (l : List Pr) (m : Mp) (Ao : Option Addr) (co : Nat) (bs : List Bool) (wr : World) : Prop where
  sv : SV wr A c l
  okl : Ok l
  av : l ≠ [] → ∀ a, A = some a → a.block ≠ gm ∧ blk Ao ≠ some a.block
  x0 : Box wr gm 31 #[.slice m.A m.cs.length m.ca, .slice m.O m.os.length m.co]
  ob : OR wr wi.heap.size 4 Ao co (bs.map Value.bool)
  mo : MO wr 0 m
  eq : (⟨valOf l, m.cs, m.os, bs⟩ : Sr) = playR r0 (es.take k)
  lo : wi.heap.size ≤ gm
  be : Below wi.heap.size wi wr
section
variable {wi wr w' : World} {r0 : Sr} {es : List Ent} {gm k c co c' : Nat} {A Ao A' : Option Addr} {l l' : List Pr} {m : Mp} {bs : List Bool}
theorem RepH.below (h : RepH wi r0 es gm k A c l m Ao co bs wr) (hb : Below wr.heap.size wr w') : RepH wi r0 es gm k A c l m Ao co bs w' := ⟨h.sv.below hb, h.okl, h.av, h.x0.below hb, h.ob.below hb, h.mo.below hb, h.eq, h.lo, h.be.trans (hb.mono h.be.size)⟩
theorem RepH.first (hs : SV wr A c l) (ho : Ok l) (hx : Box w' gm 31 #[.slice m.A m.cs.length m.ca, .slice m.O m.os.length m.co]) (hb : Below wr.heap.size wr w') (hg : wr.heap.size ≤ gm) (hi : Below wi.heap.size wi wr) (hm : MO w' 0 m) (he : (⟨valOf l, m.cs, m.os, []⟩ : Sr) = r0) : RepH wi r0 es gm 0 A c l m none 0 [] w' :=
  ⟨hs.below hb, ho, fun hl a ha => ⟨fun e => by have := hs.blk_lt hl ha; omega, by simp [blk]⟩, hx, OR.nil _ _ _, hm, he, Nat.le_trans hi.size hg, hi.trans (hb.mono hi.size)⟩
/-- a result is written down behind an entry -/
theorem RepH.told (h : RepH wi r0 es gm k A c l m Ao co bs wr) (hl : bs.length ≤ 100000) {l1 : List Pr} {m1 : Mp} {A1 : Option Addr} {c1 : Nat} {b : Bool} {x : Ent} {w1 : World} (hf : Fr (fun q => q = gm) wr w1) (hs : SV w1 A1 c1 l1) (ho : Ok l1)
    (hav : l1 ≠ [] → ∀ a, A1 = some a → a.block ≠ gm ∧ blk Ao ≠ some a.block) (hx : Box w1 gm 31 #[.slice m1.A m1.cs.length m1.ca, .slice m1.O m1.os.length m1.co])
    (hm : MO w1 0 m1) (hk : es[k]? = some x) (he : stepR ⟨valOf l, m.cs, m.os, bs⟩ x = ⟨valOf l1, m1.cs, m1.os, bs ++ [b]⟩) (ty : TypeId) :
    ∃ Ao' co' w', (Builtin.append_ #[55, 55] ty #[.slice Ao bs.length co, .slice (some ⟨w1.heap.size, 0, none⟩) 1 1]).run Tryz.prog (w1.alloc (.cells #[.bool b] 4)) = .ok (.slice Ao' (bs ++ [b]).length co') w' ∧ RepH wi r0 es gm (k + 1) A1 c1 l1 m1 Ao' co' (bs ++ [b]) w' := by
  have hbe1 : Below wi.heap.size wi w1 := hf.below (fun q hq => by rw [hq]; exact h.lo) h.be.size h.be
  have hob1 : OR w1 wi.heap.size 4 Ao co (bs.map Value.bool) := hf.own_ty h.ob fun q hq _ => ⟨31, by have hq' : q = gm := hq; rw [hq']; exact h.x0.ty, by decide⟩
  obtain ⟨Ao', co', w2, hrun, hOR, hbel, hgr, h5⟩ := app_row (P := Tryz.prog) Tryz.underlying55 boolInfo rfl w1 wi.heap.size ty Ao co _ hob1 [.bool b] (by simp [Value.oneCell']) (by simp; omega) (by decide) hbe1.size
  rw [show bs.map Value.bool ++ [.bool b] = (bs ++ [b]).map Value.bool by simp] at hrun hOR h5
  rw [List.length_map, List.length_map] at hrun
  rw [ownBlock_slice] at hgr
  rw [ownBlock_slice, ownBlock_slice] at h5
  have hal := (Below.refl w1.heap.size w1).alloc (Nat.le_refl _) (.cells #[.bool b] 4)
  have f2 : Fr (fun q => blk Ao = some q) w1 w2 := (Fr.of_below hal).comp (Fr.of_grown hgr fun q hq => hq)
  have tb : ∀ q, blk Ao = some q → Ty w1 q 4 := fun q hq => own_ty hob1 (bo _ _ hq)
  have of2 : ∀ {t : TypeId}, t ≠ 4 → Off (fun q => blk Ao = some q) w1 t := fun hn q hq _ => ⟨_, tb q hq, hn⟩
  obtain ⟨hkl, hxe⟩ := List.getElem?_eq_some_iff.1 hk
  refine ⟨Ao', co', w2, hrun, hs.fr f2 (fun hl a ha => (hav hl a ha).2), ho, fun hl a ha => ⟨(hav hl a ha).1, fun e => ?_⟩, f2.box hx (fun e => absurd ((tb _ e).inj hx.ty) (by decide)), hOR, ⟨f2.own_ty hm.cuts (of2 (by decide)), f2.own_ty hm.own (of2 (by decide))⟩, ?_, h.lo, hbel _ _ (Nat.le_refl _) hbe1⟩
  · rcases h5 with e5 | e5
    · exact (hav hl a ha).2 (e5.symm.trans e)
    · rw [e5] at e
      injection e with e
      have := hs.blk_lt hl ha
      omega
  · rw [playR_take r0 es k hkl, ← h.eq, hxe, he]
end
end Go.Proofs.YtcopmdgcjnkiaaaGreat

set_option linter.unusedVariables false
set_option linter.unusedSimpArgs false
namespace Go.Proofs.YtcopmdgcjnkiaaaGreat
open Go.RowKit

/-- what run hands back -/
def RetRun3 (w : World) (r : VF × Bool) (e : Ending) (w' : World) : Prop :=
  ∃ A c l, e = .returned (.tuple #[.slice A (l : List Pr).length c, .bool r.2, .bool true]) ∧ OV w' w.heap.size A c l ∧ Ok l ∧ valOf l = r.1 ∧ Below w.heap.size w w'
set_option maxHeartbeats 400000 in
set_option maxRecDepth 100000 in
theorem rrun_ok (A D : Option Addr) (c cd : Nat) (l : List Pr) (d : List Opr) (w : World) (hA : SV w A c l) (h : Ok l) (hD : OS w w.heap.size D d) (hd : chkD d = 0) :
    Calls Tryz.prog 17 #[.slice A l.length c, .agg #[.slice D d.length cd]] w (RetRun3 w (doneV (valOf l) d)) := by
  have hb0 := (Below.refl w.heap.size w).alloc (Nat.le_refl _) (.cells #[.slice D d.length cd] 39)
  have hA0 := hA.below hb0
  have hD0 := hD.go hb0
  go_enter Tryz.func17, Tryz.ntmps17
  go_wp2_with fail
  refine (run_ok A D c cd l d _ hA0 h hD0 hd).mono ?_
  rintro e w1 ⟨A1, c1, l1, rfl, hO, hok, hv, hb1⟩
  have HV := hideP hv
  have hb2 := hb0.trans (hb1.mono hb0.size)
  have hO2 := hO.mono hb0.size
  clear hv
  go_wp2_with fail
  go_ret3
  exact ⟨A1, c1, l1, rfl, hO2, hok, HV.out, hb2⟩

end Go.Proofs.YtcopmdgcjnkiaaaGreat

set_option linter.unusedVariables false
set_option linter.unusedSimpArgs false
namespace Go.Proofs.YtcopmdgcjnkiaaaGreat
open Go.RowKit

theorem made_bools (n : Nat) : (madeCells (Value.bool false).cells (n * 1)).toList = (List.replicate n false).map Value.bool := by
  rw [Nat.mul_one, madeCells, Array.toList_map]
  apply List.ext_getElem?
  intro i
  simp [Value.cells, Nat.mod_one]
  by_cases h : i < n <;> simp [h, List.getElem?_replicate]
theorem rep_false (n i : Nat) : (List.replicate n false).getD i false = false := by
  rw [List.getD_eq_getElem?_getD, List.getElem?_replicate]; split <;> rfl
theorem slice_upto (T : Option Addr) (n ct m : Nat) (hm : m ≤ ct) (hn : T = none → ct = 0) (w : World) : (Instr.slice 22 (.slice T n ct) none (some (.int .i64 (m : Int))) none).run Tryz.prog w = .ok (.slice T m ct) w := by
  have g1 : (0 : Int) ≤ (m : Int) := by omega
  have g2 : (m : Int) ≤ (ct : Int) := by omega
  cases T with
  | none =>
    obtain rfl := hn rfl
    obtain rfl : m = 0 := by omega
    clear hn hm
    go_simp
  | some a =>
    clear hn hm
    go_simp
theorem made_ints (n : Nat) : (madeCells (Value.int .i64 0).cells (n * 1)).toList = nV (List.replicate n 0) := by
  rw [Nat.mul_one, madeCells, Array.toList_map]
  apply List.ext_getElem?
  intro i
  simp [Value.cells, Nat.mod_one, nV]
  by_cases h : i < n <;> simp [h, List.getElem?_replicate]
end Go.Proofs.YtcopmdgcjnkiaaaGreat

set_option linter.unusedVariables false
set_option linter.unusedSimpArgs false
namespace Go.Proofs.YtcopmdgcjnkiaaaGreat
open Go.RowKit

theorem slice_uptoE (T : Option Addr) (n ct m : Nat) (hm : m ≤ ct) (hn : T = none → ct = 0) (w : World) : (Instr.slice 35 (.slice T n ct) none (some (.int .i64 (m : Int))) none).run Tryz.prog w = .ok (.slice T m ct) w := by
  have g1 : (0 : Int) ≤ (m : Int) := by omega
  have g2 : (m : Int) ≤ (ct : Int) := by omega
  cases T with
  | none =>
    obtain rfl := hn rfl
    obtain rfl : m = 0 := by omega
    clear hn hm
    go_simp
  | some a =>
    clear hn hm
    go_simp
end Go.Proofs.YtcopmdgcjnkiaaaGreat
