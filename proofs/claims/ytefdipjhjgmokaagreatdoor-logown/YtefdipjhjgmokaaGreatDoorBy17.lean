/-
  Copies: Add and Close of the Merge in them; replicas that have played the log.
  Rows whose contents do not matter (no program in it).
  An array's elements by number.
-/
import Derived.Test.YtefdipjhjgmokaaGreatDoorBy12
import Derived.Test.YtefdipjhjgmokaaGreatDoorBy16
import Derived.Test.YtefdipjhjgmokaaGreatDoorBy2
import Derived.Test.YtefdipjhjgmokaaGreatDoorBy3
import Derived.Test.YtefdipjhjgmokaaGreatDoorBy9
set_option linter.unusedVariables false
set_option linter.unusedSimpArgs false
namespace Go.Proofs.YtefdipjhjgmokaaGreatDoor
open Go.RowKit

theorem addC_log (ct : List (List (List Ent))) (i : Int) (x : Ent) : logM (addC ct i x) = logM ct := by
  unfold addC
  split
  · exact log_add _ _ _
  · rfl
theorem closeC_log (ct : List (List (List Ent))) (i : Int) : ∃ m, logM (closeC ct i) = logM ct ++ m := by
  unfold closeC
  split
  · obtain ⟨m, h, _⟩ := log_close ct i.toNat; exact ⟨m, h⟩
  · exact ⟨[], by simp⟩
section
variable {B : Nat} {w : World}
theorem cadd_any (c : Cs) (B : Nat) (i : Int) (x : Em) (w : World) (h : c.Ok w B) (hx : ES w x) :
    Calls Tryz.prog 14 #[.pointer (some ⟨c.s.g, 0, none⟩), .int .i64 i, emV x] w fun e w' => ∃ c', e = .returned (.int .i64 (addQ c.s.ct i (entOf x))) ∧ c.To w B c' w' (addC c.s.ct i (entOf x)) c.st := by
  refine (madd_any c.s B i x w h.ms hx).mono ?_
  rintro e w' ⟨s', rfl, ht⟩
  exact ⟨_, rfl, h.merge ht (by rw [addC_log]; exact Nat.le_refl _)⟩
theorem cclose_any (c : Cs) (B : Nat) (i : Int) (w : World) (h : c.Ok w B) :
    Calls Tryz.prog 15 #[.pointer (some ⟨c.s.g, 0, none⟩), .int .i64 i] w fun e w' => ∃ c', e = .returned (.tuple #[.int .i64 (closeN c.s.ct i), .int .i64 (closeQ c.s.ct i)]) ∧ c.To w B c' w' (closeC c.s.ct i) c.st := by
  refine (mclose_any c.s B i w h.ms).mono ?_
  rintro e w' ⟨s', rfl, ht⟩
  obtain ⟨m, hm⟩ := closeC_log c.s.ct i
  exact ⟨_, rfl, h.merge ht (by rw [hm, List.length_append]; omega)⟩
theorem clog_pw (c : Cs) (B : Nat) (w : World) (h : c.Ok w B) :
    Calls Tryz.prog 36 #[.pointer (some ⟨c.s.g, 0, none⟩)] w (RetLp w (logM c.s.ct)) :=
  mlog_pw B c.s.g c.s.x c.s.AI c.s.cI c.s.ins c.s.added w h.ms.mg h.ms.gm
theorem clog_any (c : Cs) (B : Nat) (w : World) (h : c.Ok w B) :
    Calls Tryz.prog 36 #[.pointer (some ⟨c.s.g, 0, none⟩)] w (RetLm w (logM c.s.ct)) :=
  mlog_any B c.s.g c.s.x c.s.AI c.s.cI c.s.ins c.s.added w h.ms.mg h.ms.gm
end
/-- replicas have what the log makes of the beginning -/
def Played (r0 : Sr) (log : List Ent) (st : List Sr) : Prop := ∀ r ∈ st, r = playR r0 (log.take r.bs.length) ∧ r.bs.length ≤ log.length
section
variable {r0 : Sr} {log : List Ent} {st : List Sr} {ct : List (List (List Ent))}
theorem Played.grow (h : Played r0 log st) (m : List Ent) : Played r0 (log ++ m) st := fun r hr => by
  obtain ⟨h1, h2⟩ := h r hr
  rw [List.take_append_of_le_length h2]
  exact ⟨h1, by rw [List.length_append]; omega⟩
theorem mem_set {α : Type} {l : List α} {i : Nat} {a b : α} (h : b ∈ l.set i a) : b = a ∨ b ∈ l := by
  rcases List.mem_or_eq_of_mem_set h with h | h
  · exact .inr h
  · exact .inl h
theorem Played.step (h : Played r0 log st) {i : Nat} {r : Sr} {x : Ent} (hi : st[i]? = some r) (hx : log[r.bs.length]? = some x) : Played r0 log (st.set i (stepR r x)) := fun q hq => by
  rcases mem_set hq with rfl | hq
  · obtain ⟨h1, h2⟩ := h r (List.mem_of_getElem? hi)
    obtain ⟨hl, rfl⟩ := List.getElem?_eq_some_iff.1 hx
    have e : (stepR r log[r.bs.length]).bs.length = r.bs.length + 1 := by rw [stepR_bs]; simp
    rw [e, playR_take _ _ _ hl, ← h1]
    exact ⟨rfl, hl⟩
  · exact h q hq
theorem Played.cpS (h : Played r0 log st) (i : Int) : Played r0 log (cpS log st i) := by
  unfold Go.Proofs.YtefdipjhjgmokaaGreatDoor.cpS
  split
  · split
    · split
      · rename_i h1 _ _ h2; exact h.step h1 h2
      · exact h
    · exact h
  · exact h
theorem Played.ctS (h : Played r0 log st) (i k : Int) : Played r0 log (ctS st i k) := by
  unfold Go.Proofs.YtefdipjhjgmokaaGreatDoor.ctS
  split
  · split
    · next hk => exact fun q hq => (mem_set hq).elim (fun e => by rw [e]; exact h _ (List.mem_of_getElem? hk)) (h q)
    · exact h
  · exact h
theorem Played.add (h : Played r0 (logM ct) st) (i : Int) (x : Ent) : Played r0 (logM (addC ct i x)) st := by rw [addC_log]; exact h
theorem Played.close (h : Played r0 (logM ct) st) (i : Int) : Played r0 (logM (closeC ct i)) st := by
  obtain ⟨m, hm⟩ := closeC_log ct i
  rw [hm]; exact h.grow m
theorem Played.first (h0 : r0.bs = []) (n : Nat) : Played r0 log (List.replicate n r0) := fun r hr => by
  have := List.eq_of_mem_replicate hr
  subst this
  rw [h0]
  exact ⟨rfl, Nat.zero_le _⟩
end
end Go.Proofs.YtefdipjhjgmokaaGreatDoor

set_option linter.unusedVariables false
set_option linter.unusedSimpArgs false
namespace Go.Proofs.YtefdipjhjgmokaaGreatDoor
open Go.RowKit

/-- every block of cells keeps its type and its size -/
def Kz (w w' : World) : Prop := ∀ (g : Nat) (t : TypeId) (cur : Array Value), Box w g t cur → ∃ cur' : Array Value, Box w' g t cur' ∧ cur'.size = cur.size
theorem Kz.refl (w : World) : Kz w w := fun g t cur h => ⟨cur, h, rfl⟩
theorem Kz.trans {a b c : World} (h1 : Kz a b) (h2 : Kz b c) : Kz a c := fun g t cur h => by
  obtain ⟨c1, h3, h4⟩ := h1 g t cur h
  obtain ⟨c2, h5, h6⟩ := h2 g t c1 h3
  exact ⟨c2, h5, h6.trans h4⟩
theorem Kz.of_below {w w' : World} (h : Below w.heap.size w w') : Kz w w' := fun g t cur hb => ⟨cur, hb.below h, rfl⟩
/-- only one block has changed, and it kept its type and its size -/
theorem Kz.of_grown {w w' : World} {g : Nat} {t : TypeId} {cur : Array Value} (h : w.grownBy w' (some g)) (hb : Box w g t cur) (hn : ∃ cur' : Array Value, Box w' g t cur' ∧ cur'.size = cur.size) : Kz w w' := by
  intro g' t' cur' hb'
  by_cases e : g' = g
  · subst e
    have e2 := hb.symm.trans hb'
    injection e2 with e2
    injection e2 with e3 e4 _
    subst e3; subst e4
    exact hn
  · exact ⟨cur', hb'.grown h (by simpa using e), rfl⟩
theorem Kz.of_grown_none {w w' : World} (h : w.grownBy w' none) : Kz w w' := fun g t cur hb => ⟨cur, hb.grown h (by simp), rfl⟩
/-- a row of the call's own, whatever it holds -/
def Wr (w : World) (B : Nat) (t : TypeId) (s : Nat) (A : Option Addr) (n c : Nat) : Prop :=
  (A = none ∧ n = 0 ∧ c = 0) ∨ ∃ (g : Nat) (cur : Array Value), A = some ⟨g, 0, none⟩ ∧ B ≤ g ∧ Box w g t cur ∧ cur.size = c * s ∧ n ≤ c ∧ c ≤ 9223372036854775807
theorem Wr.of_own {w : World} {B : Nat} {t : TypeId} {s n c : Nat} {A : Option Addr} {xs : List Value} (h : w.ownsRow B t s (.slice A n c) n xs) : Wr w B t s A n c := by
  rcases h.2 with ⟨hv, h0⟩ | ⟨g, cap, cur, hv, hB, hbk, h1, h2, h3, h4⟩
  · injection hv with e1 e2 e3
    exact .inl ⟨e1, e2, e3⟩
  · injection hv with e1 e2 e3
    subst e3
    have hc : c ≤ 9223372036854775807 := by unfold maxLen at h2; exact h2
    exact .inr ⟨g, cur, e1, hB, hbk, h3, by omega, hc⟩
theorem Wr.caps {w : World} {B : Nat} {t : TypeId} {s n c : Nat} {A : Option Addr} (h : Wr w B t s A n c) : n ≤ c ∧ (A = none → c = 0) := by
  rcases h with ⟨h1, h2, h3⟩ | ⟨g, cur, h1, h2, h3, h4, h5, h6⟩
  · exact ⟨by omega, fun _ => h3⟩
  · exact ⟨h5, fun e => by rw [h1] at e; cases e⟩
theorem Wr.kz {w w' : World} {B : Nat} {t : TypeId} {s n c : Nat} {A : Option Addr} (h : Wr w B t s A n c) (hk : Kz w w') : Wr w' B t s A n c := by
  rcases h with h | ⟨g, cur, h1, h2, h3, h4, h5, h6⟩
  · exact .inl h
  · obtain ⟨c2, h7, h8⟩ := hk g t cur h3
    exact .inr ⟨g, c2, h1, h2, h7, by omega, h5, h6⟩
theorem Wr.mono {w : World} {B B' : Nat} {t : TypeId} {s n c : Nat} {A : Option Addr} (h : Wr w B t s A n c) (hB : B' ≤ B) : Wr w B' t s A n c :=
  h.imp id fun ⟨g, cur, h1, h2, h3⟩ => ⟨g, cur, h1, Nat.le_trans hB h2, h3⟩
/-- an entry whose rows are the call's own -/
structure WE (w : World) (B : Nat) (x : Em) : Prop where
  ops : Wr w B 71 4 x.D x.d.length x.c
  cs : Wr w B 9 1 x.m.A x.m.cs.length x.m.ca
  os : Wr w B 3 1 x.m.O x.m.os.length x.m.co
theorem WE.kz {w w' : World} {B : Nat} {x : Em} (h : WE w B x) (hk : Kz w w') : WE w' B x := ⟨h.ops.kz hk, h.cs.kz hk, h.os.kz hk⟩
theorem WE.mono {w : World} {B B' : Nat} {x : Em} (h : WE w B x) (hB : B' ≤ B) : WE w B' x := ⟨h.ops.mono hB, h.cs.mono hB, h.os.mono hB⟩
/-- the blocks of an entry's rows -/
def eB (x : Em) (k : Nat) : Prop := blk x.D = some k ∨ blk x.m.A = some k ∨ blk x.m.O = some k
theorem Wr.lo {w : World} {B : Nat} {t : TypeId} {s n c : Nat} {A : Option Addr} (h : Wr w B t s A n c) {k : Nat} (hk : blk A = some k) : B ≤ k ∧ k < w.heap.size ∧ Ty w k t := by
  rcases h with ⟨h, _⟩ | ⟨g, cur, h1, h2, h3, _⟩
  · rw [h] at hk; cases hk
  · rw [h1] at hk
    injection hk with hk
    simp only at hk
    subst hk
    exact ⟨h2, h3.lt, ⟨_, _, h3⟩⟩
theorem WE.lo {w : World} {B : Nat} {x : Em} (h : WE w B x) {k : Nat} (hk : eB x k) : B ≤ k ∧ k < w.heap.size ∧ (Ty w k 3 ∨ Ty w k 9 ∨ Ty w k 71) := by
  rcases hk with hk | hk | hk
  · exact ⟨(h.ops.lo hk).1, (h.ops.lo hk).2.1, .inr (.inr (h.ops.lo hk).2.2)⟩
  · exact ⟨(h.cs.lo hk).1, (h.cs.lo hk).2.1, .inr (.inl (h.cs.lo hk).2.2)⟩
  · exact ⟨(h.os.lo hk).1, (h.os.lo hk).2.1, .inl (h.os.lo hk).2.2⟩
theorem EO.we {w : World} {B : Nat} {x : Em} (h : EO w B x) : WE w B x := by
  have h2 := Wr.of_own (n := (x.m.cs.map Value.string).length) h.map.cuts
  have h3 := Wr.of_own (n := (x.m.os.map (Value.int .i64)).length) h.map.own
  rw [List.length_map] at h2 h3
  exact ⟨Wr.of_own h.ops, h2, h3⟩
theorem EW.we {w : World} {B : Nat} {A : Option Addr} {c : Nat} {xs : List Em} (h : EW w B A c xs) {x : Em} (hx : x ∈ xs) : WE w B x := (h.eo x hx).we
end Go.Proofs.YtefdipjhjgmokaaGreatDoor

set_option linter.unusedVariables false
set_option linter.unusedSimpArgs false
namespace Go.Proofs.YtefdipjhjgmokaaGreatDoor
open Go.RowKit

set_option maxRecDepth 100000 in
theorem idx4 (q : Dv) (cs : List ByteArray) (os : List Int) (l : List Pr) {k : Nat} (hk : k < 4) (w : World) :
    (Instr.index 192 (.agg #[q.s cs os l 0, q.s cs os l 1, q.s cs os l 2, q.s cs os l 3]) (.int .i64 (k : Int))).run Tryz.prog w = .ok (q.s cs os l k) w := by
  have hu := run_underlying (w := w) Tryz.underlying192
  rcases lt4 hk with rfl | rfl | rfl | rfl <;> simp [Instr.index, asIntOf, hu, part, go_sem]
end Go.Proofs.YtefdipjhjgmokaaGreatDoor
