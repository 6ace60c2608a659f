/-
  rokeep.LogOwn: an entry and its twin at hand (no body of the program in it).
  What entries make of a store, a map and a list of results, done one by one by the law itself (no body of the program in it).
  rokeep.LogOwn: the replica and the store beside it (no body of the program in it).
  rokeep.LogOwn: a log is wasted, entry by entry (no body of the program in it).
-/
import Derived.Test.YtefdipjhjgmokaaGreatDoorBy31
import Derived.Test.YtefdipjhjgmokaaGreatDoorBy32
import Derived.Test.YtefdipjhjgmokaaGreatDoorBy33
import Derived.Test.YtefdipjhjgmokaaGreatDoorBy34
import Derived.Test.YtefdipjhjgmokaaGreatDoorBy26
import Derived.Test.YtefdipjhjgmokaaGreatDoorBy17
import Derived.Test.YtefdipjhjgmokaaGreatDoorBy16
set_option linter.unusedVariables false
set_option linter.unusedSimpArgs false
namespace Go.Proofs.YtefdipjhjgmokaaGreatDoor
open Go.RowKit

def mkSv : Value := .string ⟨#[109, 97, 114, 107]⟩
def mkIv : Value := .int .i64 (-7)
/-- an entry x and its twin y with room -/
structure LoY (w : World) (g gc : Nat) (A : Option Addr) (ce : Nat) (xs : List Em) (ct ca : List (List (List Ent))) (st : List Sr) (s : Ms) (c : Cs) (x : Em) (gx gy n1 g1 g2 g3 : Nat) (W : World) : Prop where
  h : LoH w g gc A ce xs ct ca st s c W
  bx : Box W gx 42 (emC x)
  by_ : Box W gy 42 (emC (twin x g1 g2 g3))
  no : ∀ q, (q = gx ∨ q = gy ∨ eB (twin x g1 g2 g3) q) → ¬ Occ s c A xs q
  lt : ∀ q, (q = gx ∨ q = gy ∨ eB (twin x g1 g2 g3) q) → q < n1
  n1 : n1 ≤ W.heap.size
  o1 : OO W w.heap.size (some ⟨g1, 0, none⟩) (x.d.length + 3) (x.d ++ List.replicate 3 opM)
  o2 : OR W w.heap.size 9 (some ⟨g2, 0, none⟩) (x.m.cs.length + 3) (x.m.cs.map Value.string ++ List.replicate 3 mkSv)
  o3 : OR W w.heap.size 3 (some ⟨g3, 0, none⟩) (x.m.os.length + 3) (x.m.os.map (Value.int .i64) ++ List.replicate 3 mkIv)
section
variable {w W W' : World} {g gc ce gx gy n0 n1 g1 g2 g3 : Nat} {A : Option Addr} {xs : List Em} {ct ca ct' : List (List (List Ent))} {st st' : List Sr} {s s' : Ms} {c c' : Cs} {x : Em}
theorem LoY.below (h : LoY w g gc A ce xs ct ca st s c x gx gy n1 g1 g2 g3 W) (hb : Below W.heap.size W W') : LoY w g gc A ce xs ct ca st s c x gx gy n1 g1 g2 g3 W' :=
  ⟨h.h.below hb, h.bx.below hb, h.by_.below hb, h.no, h.lt, Nat.le_trans h.n1 hb.size, h.o1.below hb, h.o2.below hb, h.o3.below hb⟩
theorem LoY.s_ (h : LoY w g gc A ce xs ct ca st s c x gx gy n1 g1 g2 g3 W) (T : s.To W w.heap.size s' W' ct') : LoY w g gc A ce xs ct' ca st s' c x gx gy n1 g1 g2 g3 W' := by
  have nF : ∀ q, (q = gx ∨ q = gy ∨ eB (twin x g1 g2 g3) q) → ¬ s.F q := fun q hq e => h.no q hq (.inl e)
  exact ⟨h.h.s_ T, T.fr.box h.bx (nF _ (.inl rfl)), T.fr.box h.by_ (nF _ (.inr (.inl rfl))), fun q hq => occ_s T (h.no q hq) (Nat.lt_of_lt_of_le (h.lt q hq) h.n1), h.lt, Nat.le_trans h.n1 T.fr.size,
    T.fr.own h.o1 fun k hk => nF k (.inr (.inr (.inl (ob hk)))), T.fr.own h.o2 fun k hk => nF k (.inr (.inr (.inr (.inl (ob hk))))), T.fr.own h.o3 fun k hk => nF k (.inr (.inr (.inr (.inr (ob hk)))))⟩
theorem LoY.c_ (h : LoY w g gc A ce xs ct ca st s c x gx gy n1 g1 g2 g3 W) (T : c.To W w.heap.size c' W' ct' st') : LoY w g gc A ce xs ct ct' st' s c' x gx gy n1 g1 g2 g3 W' := by
  have nF : ∀ q, (q = gx ∨ q = gy ∨ eB (twin x g1 g2 g3) q) → ¬ c.F q := fun q hq e => h.no q hq (.inr (.inr (.inl e)))
  exact ⟨h.h.c_ T, T.fr.box h.bx (nF _ (.inl rfl)), T.fr.box h.by_ (nF _ (.inr (.inl rfl))), fun q hq => occ_c T (h.no q hq) (Nat.lt_of_lt_of_le (h.lt q hq) h.n1), h.lt, Nat.le_trans h.n1 T.fr.size,
    T.fr.own h.o1 fun k hk => nF k (.inr (.inr (.inl (ob hk)))), T.fr.own h.o2 fun k hk => nF k (.inr (.inr (.inr (.inl (ob hk))))), T.fr.own h.o3 fun k hk => nF k (.inr (.inr (.inr (.inr (ob hk)))))⟩
theorem LoY.eo (h : LoY w g gc A ce xs ct ca st s c x gx gy n1 g1 g2 g3 W) : EO W w.heap.size (twin x g1 g2 g3) := ⟨h.o1.head (by simp), ⟨by
    have := h.o2.head (by simp)
    exact this, by
    have := h.o3.head (by simp)
    exact this⟩⟩
theorem LoY.es (h : LoY w g gc A ce xs ct ca st s c x gx gy n1 g1 g2 g3 W) (hx : x ∈ xs) : ES W (twin x g1 g2 g3) := h.eo.es (h.h.ew.el.es _ hx).bd
theorem LoY.xc (h : LoY w g gc A ce xs ct ca st s c x gx gy n1 g1 g2 g3 W) : W.cell? ⟨gx, 0, none⟩ = some (.slice x.D x.d.length x.c) ∧ W.cell? ⟨gx, 1, none⟩ = some (.bool x.isM) ∧ W.cell? ⟨gx, 2, none⟩ = some (.slice x.m.A x.m.cs.length x.m.ca) ∧ W.cell? ⟨gx, 3, none⟩ = some (.slice x.m.O x.m.os.length x.m.co) ∧
    W.cell? ⟨gy, 0, none⟩ = some (.slice (some ⟨g1, 0, none⟩) x.d.length (x.d.length + 3)) ∧ W.cell? ⟨gy, 1, none⟩ = some (.bool x.isM) ∧ W.cell? ⟨gy, 2, none⟩ = some (.slice (some ⟨g2, 0, none⟩) x.m.cs.length (x.m.cs.length + 3)) ∧ W.cell? ⟨gy, 3, none⟩ = some (.slice (some ⟨g3, 0, none⟩) x.m.os.length (x.m.os.length + 3)) :=
  ⟨h.bx.cell 0 rfl, h.bx.cell 1 rfl, h.bx.cell 2 rfl, h.bx.cell 3 rfl, h.by_.cell 0 rfl, h.by_.cell 1 rfl, h.by_.cell 2 rfl, h.by_.cell 3 rfl⟩
/-- the rows are made: the two stand side by side -/
theorem LoK.y {L : List Rw} (h : LoK w g gc A ce xs ct ca st s c x gx gy n0 (.slice (some ⟨g1, 0, none⟩) x.d.length (x.d.length + 3)) (.slice (some ⟨g2, 0, none⟩) x.m.cs.length (x.m.cs.length + 3)) (.slice (some ⟨g3, 0, none⟩) x.m.os.length (x.m.os.length + 3)) L W)
    (h1 : r1_ x g1 ∈ L) (h2 : r2_ x mkSv g2 ∈ L) (h3 : r3_ x mkIv g3 ∈ L) (ho : ∀ q, Occ s c A xs q → q < n0) : LoY w g gc A ce xs ct ca st s c x gx gy W.heap.size g1 g2 g3 W := by
  have e1 := (h.rows _ h1).1
  have e2 := (h.rows _ h2).1
  have e3 := (h.rows _ h3).1
  have lo : ∀ q, eB (twin x g1 g2 g3) q → n0 ≤ q ∧ q < W.heap.size := by
    rintro q (hq | hq | hq)
    · exact World.ownsRow.lt e1 q (bo _ _ hq)
    · exact World.ownsRow.lt e2 q (bo _ _ hq)
    · exact World.ownsRow.lt e3 q (bo _ _ hq)
  refine ⟨h.h, h.bx, h.by_, ?_, ?_, Nat.le_refl _, own_mono e1 h.nw, own_mono e2 h.nw, own_mono e3 h.nw⟩
  · rintro q (rfl | rfl | hq)
    · exact h.ox
    · exact h.oy
    · intro e; have := ho q e; have := (lo q hq).1; omega
  · rintro q (rfl | rfl | hq)
    · exact h.bx.lt
    · exact h.by_.lt
    · exact (lo q hq).2
/-- the twin is wasted -/
theorem LoY.waste (h : LoY w g gc A ce xs ct ca st s c x gx gy n1 g1 g2 g3 W) (hf : Fr (eB (twin x g1 g2 g3)) W W') : LoH w g gc A ce xs ct ca st s c W' :=
  h.h.w_ h.eo.we (Nat.le_refl _) hf fun q hq => h.no q (.inr (.inr hq))
end
end Go.Proofs.YtefdipjhjgmokaaGreatDoor

set_option linter.unusedVariables false
set_option linter.unusedSimpArgs false
namespace Go.Proofs.YtefdipjhjgmokaaGreatDoor
open Go.RowKit

theorem SV.fr {F : Nat → Prop} {w w' : World} {A : Option Addr} {c : Nat} {l : List Pr} (h : SV w A c l) (hf : Fr F w w') (hn : l ≠ [] → ∀ a, A = some a → ¬ F a.block) : SV w' A c l :=
  ⟨fun i p hp => by
    obtain ⟨b, o, e, hlt, h1, h2⟩ := h.ps i p hp
    have hl : l ≠ [] := fun e => by rw [e] at hp; simp at hp
    have hk := hf.block b hlt (hn hl _ e)
    have hc : ∀ {o' : Nat}, w'.cell? ⟨b, o', none⟩ = w.cell? ⟨b, o', none⟩ := by
      intro o'
      simp only [World.cell?]
      rw [hk]
    exact ⟨b, o, e, Nat.lt_of_lt_of_le hlt hf.size, hc.trans h1, hc.trans h2⟩, h.le, h.cap, h.none_, h.lit⟩
theorem SV.blk_lt {w : World} {A : Option Addr} {c : Nat} {l : List Pr} (h : SV w A c l) (hl : l ≠ []) {a : Addr} (ha : A = some a) : a.block < w.heap.size := by
  cases l with
  | nil => exact absurd rfl hl
  | cons p r =>
    obtain ⟨b, o, e, hlt, _⟩ := h.ps 0 p rfl
    rw [ha] at e
    injection e with e
    subst e
    exact hlt
/-- while entries are executed one by one -/
structure RepH (wi : World) (r0 : Sr) (es : List Ent) (gm k : Nat) (A : Option Addr) (c : Nat) (l : List Pr) (m : Mp) (Ao : Option Addr) (co : Nat) (bs : List Bool) (wr : World) : Prop where
  sv : SV wr A c l
  okl : Ok l
  av : l ≠ [] → ∀ a, A = some a → a.block ≠ gm ∧ blk Ao ≠ some a.block
  x0 : Box wr gm 34 #[.slice m.A m.cs.length m.ca, .slice m.O m.os.length m.co]
  ob : OR wr wi.heap.size 4 Ao co (bs.map Value.bool)
  mo : MO wr 0 m
  eq : (⟨valOf l, m.cs, m.os, bs⟩ : Sr) = playR r0 (es.take k)
  lo : wi.heap.size ≤ gm
  be : Below wi.heap.size wi wr
section
variable {wi wr w' : World} {r0 : Sr} {es : List Ent} {gm k c co c' : Nat} {A Ao A' : Option Addr} {l l' : List Pr} {m : Mp} {bs : List Bool}
theorem RepH.below (h : RepH wi r0 es gm k A c l m Ao co bs wr) (hb : Below wr.heap.size wr w') : RepH wi r0 es gm k A c l m Ao co bs w' := ⟨h.sv.below hb, h.okl, h.av, h.x0.below hb, h.ob.below hb, h.mo.below hb, h.eq, h.lo, h.be.trans (hb.mono h.be.size)⟩
theorem RepH.first (hs : SV wr A c l) (ho : Ok l) (hx : Box w' gm 34 #[.slice m.A m.cs.length m.ca, .slice m.O m.os.length m.co]) (hb : Below wr.heap.size wr w') (hg : wr.heap.size ≤ gm) (hi : Below wi.heap.size wi wr) (hm : MO w' 0 m) (he : (⟨valOf l, m.cs, m.os, []⟩ : Sr) = r0) : RepH wi r0 es gm 0 A c l m none 0 [] w' :=
  ⟨hs.below hb, ho, fun hl a ha => ⟨fun e => by have := hs.blk_lt hl ha; omega, by simp [blk]⟩, hx, OR.nil _ _ _, hm, he, Nat.le_trans hi.size hg, hi.trans (hb.mono hi.size)⟩
/-- a result is written down behind an entry -/
theorem RepH.told (h : RepH wi r0 es gm k A c l m Ao co bs wr) (hl : bs.length ≤ 100000) {l1 : List Pr} {m1 : Mp} {A1 : Option Addr} {c1 : Nat} {b : Bool} {x : Ent} {w1 : World} (hf : Fr (fun q => q = gm) wr w1) (hs : SV w1 A1 c1 l1) (ho : Ok l1)
    (hav : l1 ≠ [] → ∀ a, A1 = some a → a.block ≠ gm ∧ blk Ao ≠ some a.block) (hx : Box w1 gm 34 #[.slice m1.A m1.cs.length m1.ca, .slice m1.O m1.os.length m1.co])
    (hm : MO w1 0 m1) (hk : es[k]? = some x) (he : stepR ⟨valOf l, m.cs, m.os, bs⟩ x = ⟨valOf l1, m1.cs, m1.os, bs ++ [b]⟩) (ty : TypeId) :
    ∃ Ao' co' w', (Builtin.append_ #[90, 90] ty #[.slice Ao bs.length co, .slice (some ⟨w1.heap.size, 0, none⟩) 1 1]).run Tryz.prog (w1.alloc (.cells #[.bool b] 4)) = .ok (.slice Ao' (bs ++ [b]).length co') w' ∧ RepH wi r0 es gm (k + 1) A1 c1 l1 m1 Ao' co' (bs ++ [b]) w' := by
  have hbe1 : Below wi.heap.size wi w1 := hf.below (fun q hq => by rw [hq]; exact h.lo) h.be.size h.be
  have hob1 : OR w1 wi.heap.size 4 Ao co (bs.map Value.bool) := hf.own_ty h.ob fun q hq _ => ⟨34, by have hq' : q = gm := hq; rw [hq']; exact h.x0.ty, by decide⟩
  obtain ⟨Ao', co', w2, hrun, hOR, hbel, hgr, h5⟩ := app_row (P := Tryz.prog) Tryz.underlying90 boolInfo rfl w1 wi.heap.size ty Ao co _ hob1 [.bool b] (by simp [Value.oneCell']) (by simp; omega) (by decide) hbe1.size
  rw [show bs.map Value.bool ++ [.bool b] = (bs ++ [b]).map Value.bool by simp] at hrun hOR h5
  rw [List.length_map, List.length_map] at hrun
  rw [ownBlock_slice] at hgr
  rw [ownBlock_slice, ownBlock_slice] at h5
  have hal := (Below.refl w1.heap.size w1).alloc (Nat.le_refl _) (.cells #[.bool b] 4)
  have f2 : Fr (fun q => blk Ao = some q) w1 w2 := (Fr.of_below hal).comp (Fr.of_grown hgr fun q hq => hq)
  have tb : ∀ q, blk Ao = some q → Ty w1 q 4 := fun q hq => own_ty hob1 (bo _ _ hq)
  have of2 : ∀ {t : TypeId}, t ≠ 4 → Off (fun q => blk Ao = some q) w1 t := fun hn q hq _ => ⟨_, tb q hq, hn⟩
  obtain ⟨hkl, hxe⟩ := List.getElem?_eq_some_iff.1 hk
  refine ⟨Ao', co', w2, hrun, hs.fr f2 (fun hl a ha => (hav hl a ha).2), ho, fun hl a ha => ⟨(hav hl a ha).1, fun e => ?_⟩, f2.box hx (fun e => absurd ((tb _ e).inj hx.ty) (by decide)), hOR, ⟨f2.own_ty hm.cuts (of2 (by decide)), f2.own_ty hm.own (of2 (by decide))⟩, ?_, h.lo, hbel _ _ (Nat.le_refl _) hbe1⟩
  · rcases h5 with e5 | e5
    · exact (hav hl a ha).2 (e5.symm.trans e)
    · rw [e5] at e
      injection e with e
      have := hs.blk_lt hl ha
      omega
  · rw [playR_take r0 es k hkl, ← h.eq, hxe, he]
end
end Go.Proofs.YtefdipjhjgmokaaGreatDoor

set_option linter.unusedVariables false
set_option linter.unusedSimpArgs false
namespace Go.Proofs.YtefdipjhjgmokaaGreatDoor
open Go.RowKit

/-- a replica's state, and a store by itself -/
structure LoS (w : World) (g gc : Nat) (A : Option Addr) (ce : Nat) (xs : List Em) (ct : List (List (List Ent))) (st : List Sr) (s : Ms) (c : Cs) (v : VF) (As : Option Addr) (cs : Nat) (l : List Pr) (W : World) : Prop where
  h : LoH w g gc A ce xs ct ct st s c W
  sv : SV W As cs l
  ok : Ok l
  ev : valOf l = v
  ap : l ≠ [] → ∀ a, As = some a → ¬ c.F a.block ∧ a.block < W.heap.size
section
variable {w W W' : World} {g gc ce cs c2 : Nat} {A As A2 : Option Addr} {xs : List Em} {ct : List (List (List Ent))} {st st' : List Sr} {s : Ms} {c c' : Cs} {v v2 : VF} {l l2 : List Pr}
theorem LoS.below (h : LoS w g gc A ce xs ct st s c v As cs l W) (hb : Below W.heap.size W W') : LoS w g gc A ce xs ct st s c v As cs l W' :=
  ⟨h.h.below hb, h.sv.below hb, h.ok, h.ev, fun hl a ha => ⟨(h.ap hl a ha).1, Nat.lt_of_lt_of_le (h.ap hl a ha).2 hb.size⟩⟩
theorem LoS.step (h : LoS w g gc A ce xs ct st s c v As cs l W) (T : c.To W w.heap.size c' W' ct st') : LoS w g gc A ce xs ct st' s c' v As cs l W' :=
  ⟨h.h.c_ T, h.sv.fr T.fr fun hl a ha => (h.ap hl a ha).1, h.ok, h.ev, fun hl a ha => ⟨fun e => (T.F _ e).elim (h.ap hl a ha).1 fun e2 => by have := (h.ap hl a ha).2; omega, Nat.lt_of_lt_of_le (h.ap hl a ha).2 T.fr.size⟩⟩
theorem LoS.put (h : LoS w g gc A ce xs ct st s c v As cs l W) (hb : Below W.heap.size W W') (ho : OV W' W.heap.size A2 c2 l2) (hok : Ok l2) (hv : valOf l2 = v2) : LoS w g gc A ce xs ct st s c v2 A2 c2 l2 W' :=
  ⟨h.h.below hb, ho.sv, hok, hv, fun hl a ha => by
    have := World.ownsRow.lt ho a.block (by rw [ha]; rfl)
    exact ⟨fun e => by have := (h.h.co.lo e).2; omega, this.2⟩⟩
/-- the replica's own store is that one -/
theorem LoS.rep {r1 : Sr} (h : LoS w g gc A ce xs ct [r1] s c r1.v As cs l W) : ∃ r, c.rs[0]? = some r ∧ r.l = l := by
  obtain ⟨r, hr, he⟩ := Cs.at_st (c := c) (i := 0) (a := r1) (by rw [h.h.st]; rfl)
  refine ⟨r, hr, (h.h.co.ro 0 r hr).pb.ok.ext h.ok fun x => ?_⟩
  rw [h.ev, ← he]
  rfl
end
/-- one replica executes its next entry -/
theorem lo_step {es : List Ent} {r0 : Sr} (h0 : r0.bs = []) {k : Nat} (hk : k < es.length) :
    cpQ es [playR r0 (es.take k)] 0 = 0 ∧ cpS es [playR r0 (es.take k)] 0 = [playR r0 (es.take (k + 1))] := by
  have hl : (playR r0 (es.take k)).bs.length = k := by rw [playR_len, h0, List.length_take]; simp; omega
  obtain ⟨h1, h2, h3⟩ := cp_go (log := es) (st := [playR r0 (es.take k)]) (i := 0) (x := es[k]) rfl (by rw [hl]; exact List.getElem?_eq_getElem hk)
  exact ⟨h1, by rw [show (0 : Int) = ((0 : Nat) : Int) from rfl, h3, playR_take _ _ _ hk]; rfl⟩
def LoI4 (w : World) (g gc : Nat) (A : Option Addr) (ce : Nat) (xs : List Em) (es : List Ent) (r0 : Sr) (sv i : Value) (wr : World) : Prop :=
  ∃ (k : Nat) (s : Ms) (c : Cs) (As : Option Addr) (cs : Nat) (l : List Pr), k ≤ xs.length ∧ sv = .slice As l.length cs ∧ i = .int .i64 k ∧ LoS w g gc A ce xs [[es, []]] [playR r0 (es.take k)] s c (playR r0 (es.take k)).v As cs l wr
end Go.Proofs.YtefdipjhjgmokaaGreatDoor

set_option linter.unusedVariables false
set_option linter.unusedSimpArgs false
namespace Go.Proofs.YtefdipjhjgmokaaGreatDoor
open Go.RowKit

theorem rowE_cells {w : World} {B : Nat} {A : Option Addr} {c : Nat} {l : List Em} (h : w.ownsRow B 42 4 (.slice A l.length c) l.length (emCells l)) (i : Nat) (x : Em) (hp : l[i]? = some x) : ∃ b o, A = some ⟨b, o, none⟩ ∧ b < w.heap.size ∧ w.cell? ⟨b, o + i * 4, none⟩ = some (.slice x.D x.d.length x.c) ∧ w.cell? ⟨b, o + i * 4 + 1, none⟩ = some (.bool x.isM) ∧
    w.cell? ⟨b, o + i * 4 + 2, none⟩ = some (.slice x.m.A x.m.cs.length x.m.ca) ∧ w.cell? ⟨b, o + i * 4 + 3, none⟩ = some (.slice x.m.O x.m.os.length x.m.co) := by
  have h0 : 0 < l.length := by have := (List.getElem?_eq_some_iff.1 hp).1; omega
  obtain ⟨g, cap, hv, _, hlt⟩ := World.ownsRow.form h h0
  injection hv with a b e
  subst a; subst e
  have hc := h.cells (g := g) rfl
  obtain ⟨g1, g2, g3, g4⟩ := emCells_get l i x hp
  have h1 := hc _ _ g1
  have h2 := hc _ _ g2
  have h3 := hc _ _ g3
  have h4 := hc _ _ g4
  rw [Addr.add_lit] at h1 h2 h3 h4
  refine ⟨g, 0, rfl, hlt, h1, ?_, ?_, ?_⟩
  · rw [Nat.add_assoc]; exact h2
  · rw [Nat.add_assoc]; exact h3
  · rw [Nat.add_assoc]; exact h4
/-- while the entries of a log are wasted -/
structure LoW (w0 : World) (A : Option Addr) (c : Nat) (ys : List Em) (wr : World) : Prop where
  row : wr.ownsRow w0.heap.size 42 4 (.slice A ys.length c) ys.length (emCells ys)
  we : ∀ y ∈ ys, WE wr w0.heap.size y
  be : Below w0.heap.size w0 wr
section
variable {w0 wr w' : World} {A : Option Addr} {c : Nat} {ys : List Em}
theorem LoW.of (h : EW wr w0.heap.size A c ys) (hb : Below w0.heap.size w0 wr) : LoW w0 A c ys wr := ⟨h.row, fun y hy => h.we hy, hb⟩
theorem LoW.below (h : LoW w0 A c ys wr) (hb : Below wr.heap.size wr w') : LoW w0 A c ys w' := ⟨own_below h.row hb, fun y hy => (h.we y hy).kz (.of_below hb), h.be.trans (hb.mono h.be.size)⟩
theorem LoW.step (h : LoW w0 A c ys wr) {y : Em} (hy : y ∈ ys) (hf : Fr (eB y) wr w') (hk : Kz wr w') : LoW w0 A c ys w' := by
  refine ⟨hf.own h.row fun k hk e => ?_, fun z hz => (h.we z hz).kz hk, hf.below (fun k hk => ((h.we y hy).lo hk).1) h.be.size h.be⟩
  have ht := own_ty h.row hk
  rcases ((h.we y hy).lo e).2.2 with t | t | t <;> exact absurd (t.inj ht) (by decide)
end
def LoI2 (w0 : World) (A : Option Addr) (c : Nat) (ys : List Em) (i : Value) (wr : World) : Prop := ∃ k : Nat, k ≤ ys.length ∧ i = .int .i64 k ∧ LoW w0 A c ys wr
end Go.Proofs.YtefdipjhjgmokaaGreatDoor
