/-
  rotop.begun and storeKept.
  What entries make of a store, a map and a list of results, done one by one by the law itself (no body of the program in it).
  slices.Equal at pairs: two that read the same are equal.
-/
import Derived.Test.YtcopmdgcjnkiaaaGreatBu17
import Derived.Test.YtcopmdgcjnkiaaaGreatBu40
import Derived.Test.YtcopmdgcjnkiaaaGreatBu13
import Derived.WalkKit
import Derived.WalkSpells
import Derived.WalkLawsBesides
import Derived.Deep.QuietTactic
import Derived.BigQuiet
import Derived.Laws.StructEq
set_option linter.unusedVariables false
set_option linter.unusedSimpArgs false
namespace Go.Proofs.YtcopmdgcjnkiaaaGreat
open Go.RowKit

set_option maxHeartbeats 400000 in
set_option maxRecDepth 100000 in
theorem tbegun_any (w : World) : Calls Tryz.prog 25 #[] w fun e w' => e = .returned (.bool true) ∧ Below w.heap.size w w' := by
  have hok : Ok [((⟨#[97]⟩ : ByteArray), (1 : Int))] := chk_ok.1 (by decide +kernel)
  have HL := hideP (fun l' (h1 : Ok l') (h2 : valOf l' = upd (valOf []) ⟨#[97]⟩ 1) => show l'.length = 1 from by
    rw [h1.ext hok fun k => by
      rw [h2]
      by_cases e : k = ⟨#[97]⟩
      · subst e; rw [upd_same, valOf_mem (p := ((⟨#[97]⟩ : ByteArray), (1 : Int))) hok.srt (by simp)]
      · rw [upd_other _ _ e, valOf_none (by simp), valOf_none (fun p hp h => e (by simp at hp; subst hp; exact h.symm))]]
    rfl)
  clear hok
  have HP := hideP (put_st none 0 [] ⟨#[97]⟩ 1 w (SV.nil w) Ok.nil (by decide +kernel) (by decide))
  go_enter Tryz.func25, Tryz.ntmps25
  go_wp2_with fail
  refine HP.out.mono ?_
  rintro e w1 ⟨A, c, l', rfl, _, hok, hv, hb, _⟩
  rw [HL.out l' hok hv]
  clear HP HL hv
  go_wp2_with fail
  go_ret
  exact ⟨rfl, hb⟩
end Go.Proofs.YtcopmdgcjnkiaaaGreat

set_option linter.unusedVariables false
set_option linter.unusedSimpArgs false
namespace Go.Proofs.YtcopmdgcjnkiaaaGreat
open Go.RowKit

theorem SV.fr {F : Nat → Prop} {w w' : World} {A : Option Addr} {c : Nat} {l : List Pr} (h : SV w A c l) (hf : Fr F w w') (hn : l ≠ [] → ∀ a, A = some a → ¬ F a.block) : SV w' A c l :=
  ⟨fun i p hp => by
    obtain ⟨b, o, e, hlt, h1, h2⟩ := h.ps i p hp
    have hl : l ≠ [] := fun e => by rw [e] at hp; simp at hp
    have hk := hf.block b hlt (hn hl _ e)
    have hc : ∀ {o' : Nat}, w'.cell? ⟨b, o', none⟩ = w.cell? ⟨b, o', none⟩ := by
      intro o'
      simp only [World.cell?]
      rw [hk]
    exact ⟨b, o, e, Nat.lt_of_lt_of_le hlt hf.size, hc.trans h1, hc.trans h2⟩, h.le, h.cap, h.none_, h.lit⟩
theorem SV.blk_lt {w : World} {A : Option Addr} {c : Nat} {l : List Pr} (h : SV w A c l) (hl : l ≠ []) {a : Addr} (ha : A = some a) : a.block < w.heap.size := by
  cases l with
  | nil => exact absurd rfl hl
  | cons p r =>
    obtain ⟨b, o, e, hlt, _⟩ := h.ps 0 p rfl
    rw [ha] at e
    injection e with e
    subst e
    exact hlt
/-- while entries are executed one by one -/
structure RepH (wi : World) (r0 : Sr) (es : List Ent) (gm k : Nat) (A : Option Addr) (c : Nat) (l : List Pr) (m : Mp) (Ao : Option Addr) (co : Nat) (bs : List Bool) (wr : World) : Prop where
  sv : SV wr A c l
  okl : Ok l
  av : l ≠ [] → ∀ a, A = some a → a.block ≠ gm ∧ blk Ao ≠ some a.block
  x0 : Box wr gm 31 #[.slice m.A m.cs.length m.ca, .slice m.O m.os.length m.co]
  ob : OR wr wi.heap.size 4 Ao co (bs.map Value.bool)
  mo : MO wr 0 m
  eq : (⟨valOf l, m.cs, m.os, bs⟩ : Sr) = playR r0 (es.take k)
  lo : wi.heap.size ≤ gm
  be : Below wi.heap.size wi wr
section
variable {wi wr w' : World} {r0 : Sr} {es : List Ent} {gm k c co c' : Nat} {A Ao A' : Option Addr} {l l' : List Pr} {m : Mp} {bs : List Bool}
theorem RepH.below (h : RepH wi r0 es gm k A c l m Ao co bs wr) (hb : Below wr.heap.size wr w') : RepH wi r0 es gm k A c l m Ao co bs w' := ⟨h.sv.below hb, h.okl, h.av, h.x0.below hb, h.ob.below hb, h.mo.below hb, h.eq, h.lo, h.be.trans (hb.mono h.be.size)⟩
theorem RepH.first (hs : SV wr A c l) (ho : Ok l) (hx : Box w' gm 31 #[.slice m.A m.cs.length m.ca, .slice m.O m.os.length m.co]) (hb : Below wr.heap.size wr w') (hg : wr.heap.size ≤ gm) (hi : Below wi.heap.size wi wr) (hm : MO w' 0 m) (he : (⟨valOf l, m.cs, m.os, []⟩ : Sr) = r0) : RepH wi r0 es gm 0 A c l m none 0 [] w' :=
  ⟨hs.below hb, ho, fun hl a ha => ⟨fun e => by have := hs.blk_lt hl ha; omega, by simp [blk]⟩, hx, OR.nil _ _ _, hm, he, Nat.le_trans hi.size hg, hi.trans (hb.mono hi.size)⟩
/-- a result is written down behind an entry -/
theorem RepH.told (h : RepH wi r0 es gm k A c l m Ao co bs wr) (hl : bs.length ≤ 100000) {l1 : List Pr} {m1 : Mp} {A1 : Option Addr} {c1 : Nat} {b : Bool} {x : Ent} {w1 : World} (hf : Fr (fun q => q = gm) wr w1) (hs : SV w1 A1 c1 l1) (ho : Ok l1)
    (hav : l1 ≠ [] → ∀ a, A1 = some a → a.block ≠ gm ∧ blk Ao ≠ some a.block) (hx : Box w1 gm 31 #[.slice m1.A m1.cs.length m1.ca, .slice m1.O m1.os.length m1.co])
    (hm : MO w1 0 m1) (hk : es[k]? = some x) (he : stepR ⟨valOf l, m.cs, m.os, bs⟩ x = ⟨valOf l1, m1.cs, m1.os, bs ++ [b]⟩) (ty : TypeId) :
    ∃ Ao' co' w', (Builtin.append_ #[55, 55] ty #[.slice Ao bs.length co, .slice (some ⟨w1.heap.size, 0, none⟩) 1 1]).run Tryz.prog (w1.alloc (.cells #[.bool b] 4)) = .ok (.slice Ao' (bs ++ [b]).length co') w' ∧ RepH wi r0 es gm (k + 1) A1 c1 l1 m1 Ao' co' (bs ++ [b]) w' := by
  have hbe1 : Below wi.heap.size wi w1 := hf.below (fun q hq => by rw [hq]; exact h.lo) h.be.size h.be
  have hob1 : OR w1 wi.heap.size 4 Ao co (bs.map Value.bool) := hf.own_ty h.ob fun q hq _ => ⟨31, by have hq' : q = gm := hq; rw [hq']; exact h.x0.ty, by decide⟩
  obtain ⟨Ao', co', w2, hrun, hOR, hbel, hgr, h5⟩ := app_row (P := Tryz.prog) Tryz.underlying55 boolInfo rfl w1 wi.heap.size ty Ao co _ hob1 [.bool b] (by simp [Value.oneCell']) (by simp; omega) (by decide) hbe1.size
  rw [show bs.map Value.bool ++ [.bool b] = (bs ++ [b]).map Value.bool by simp] at hrun hOR h5
  rw [List.length_map, List.length_map] at hrun
  rw [ownBlock_slice] at hgr
  rw [ownBlock_slice, ownBlock_slice] at h5
  have hal := (Below.refl w1.heap.size w1).alloc (Nat.le_refl _) (.cells #[.bool b] 4)
  have f2 : Fr (fun q => blk Ao = some q) w1 w2 := (Fr.of_below hal).comp (Fr.of_grown hgr fun q hq => hq)
  have tb : ∀ q, blk Ao = some q → Ty w1 q 4 := fun q hq => own_ty hob1 (bo _ _ hq)
  have of2 : ∀ {t : TypeId}, t ≠ 4 → Off (fun q => blk Ao = some q) w1 t := fun hn q hq _ => ⟨_, tb q hq, hn⟩
  obtain ⟨hkl, hxe⟩ := List.getElem?_eq_some_iff.1 hk
  refine ⟨Ao', co', w2, hrun, hs.fr f2 (fun hl a ha => (hav hl a ha).2), ho, fun hl a ha => ⟨(hav hl a ha).1, fun e => ?_⟩, f2.box hx (fun e => absurd ((tb _ e).inj hx.ty) (by decide)), hOR, ⟨f2.own_ty hm.cuts (of2 (by decide)), f2.own_ty hm.own (of2 (by decide))⟩, ?_, h.lo, hbel _ _ (Nat.le_refl _) hbe1⟩
  · rcases h5 with e5 | e5
    · exact (hav hl a ha).2 (e5.symm.trans e)
    · rw [e5] at e
      injection e with e
      have := hs.blk_lt hl ha
      omega
  · rw [playR_take r0 es k hkl, ← h.eq, hxe, he]
end
end Go.Proofs.YtcopmdgcjnkiaaaGreat

set_option linter.unusedVariables false
set_option linter.unusedSimpArgs false
namespace Go.Proofs.YtcopmdgcjnkiaaaGreat
open Go.RowKit

theorem run_neq_pair (k : ByteArray) (n : Int) (w : World) : (binOp .neq 64 (.agg #[.string k, .int .i64 n]) (.agg #[.string k, .int .i64 n])).run Tryz.prog w = .ok (.bool false) w := by
  have u3 := Tryz.underlying3
  have u9 := Tryz.underlying9
  have a3 := Tryz.isAgg3
  have z3 := Tryz.sizeOf3
  have a9 := Tryz.isAgg9
  have z9 := Tryz.sizeOf9
  have hS : Tryz.prog.underlying 64 = some (.struct (Tryz.prog.fieldsOf 64)) := by kernel_rfl
  have hp : Tryz.prog.stoodInHeld 64 = false := by kernel_rfl
  rw [run_neq_struct, show (10000 : Nat) = 9999 + 1 from rfl, run_equalIn_agg w 9999 64 _ _ hS hp]
  simp only [Program.fieldsOf, Tryz.underlying64]
  go_simp

theorem guard_pair (x y : Operand) (xs ys : Array Value) (w : World) : (eqGuard .neq 64 x y (.agg xs) (.agg ys)).run Tryz.prog w = .ok () w := run_eqGuard_agg w .neq 64 x y xs ys (by kernel_rfl)

set_option maxHeartbeats 400000 in
set_option maxRecDepth 100000 in
theorem equal_same (A1 A2 : Option Addr) (c1 c2 : Nat) (l : List Pr) (w : World) (h1 : PS w w.heap.size A1 l) (h2 : PS w w.heap.size A2 l) (hl : l.length < 4611686018427387904) :
    Calls Tryz.prog 20 #[.slice A1 l.length c1, .slice A2 l.length c2] w fun e w' => e = .returned (.bool true) ∧ Below w.heap.size w w' := by
  have d0 : ((l.length : Int) != (l.length : Int)) = false := by simp
  go_enter Tryz.func20, Tryz.ntmps20
  go_wp2_with fail
  go_loopw [13] (fun i wr => ∃ k : Nat, k ≤ l.length ∧ i = .int .i64 k ∧ Below w.heap.size w wr) (fun i _ => l.length - (intOf i).toNat)
  case atStart => exact ⟨0, Nat.zero_le _, rfl, Below.refl _ _⟩
  case round =>
    obtain ⟨k, hk, rfl, hb⟩ := hrel
    by_cases hlt : k < l.length
    · obtain ⟨b, o, rfl, hbl, q1, q2⟩ := h1.below hb k _ (List.getElem?_eq_getElem hlt)
      obtain ⟨b', o', rfl, hbl', q3, q4⟩ := h2.below hb k _ (List.getElem?_eq_getElem hlt)
      clear h1 h2
      generalize l[k] = p at q1 q2 q3 q4
      have g1 : (0 : Int) ≤ (k : Int) := by omega
      have g2 : (k : Int) < (l.length : Int) := by omega
      have n1 := run_neq_pair p.1 p.2
      have n2 := guard_pair
      go_wp2_with fail
      go_quiet (fail)
      go_wp2_with fail
      go_roundw
      case rel => exact ⟨k + 1, by omega, by go_num, ⟨hb.os, hb.tape, hb.output, hb.size, hb.block⟩⟩
      case measure => simp [intOf]; omega
    · go_wp2_with fail
      go_ret
      exact ⟨rfl, hb⟩
end Go.Proofs.YtcopmdgcjnkiaaaGreat
