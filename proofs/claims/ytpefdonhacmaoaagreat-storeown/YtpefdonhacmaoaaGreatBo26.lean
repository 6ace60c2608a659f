/-
  The lock table while a call changes its queues (no body of the program in it).
-/
import Derived.Test.YtpefdonhacmaoaaGreatBo25
set_option linter.unusedVariables false
set_option linter.unusedSimpArgs false
namespace Go.Proofs.YtpefdonhacmaoaaGreat
open Go.RowKit Go.WideMaps Go.Maps

/-- a table whose queues are Q -/
structure TQ (w : World) (B g added : Nat) (left : List En) (lA : Option Addr) (lc : Nat) (m : Option Nat) (n : Nat) (f : ByteArray → Value) (Q : ByteArray → List (Nat × Bool)) : Prop where
  box : Box w g 153 #[.int .i64 (added : Int), .slice lA left.length lc, .map m]
  low : B ≤ g
  row : w.ownsRow B 155 2 (.slice lA left.length lc) left.length (enCells left)
  keys : ∀ e ∈ left, OR w B 9 e.A e.c ((uK e.d).map Value.string)
  map : MPO w m n f
  mlow : ∀ b, m = some b → B ≤ b
  queue : ∀ k, w.ownsRow B 159 2 (f k) (Q k).length (cmCells (Q k))
  apart : ∀ j k, j ≠ k → (f j).ownBlock = none ∨ (f j).ownBlock ≠ (f k).ownBlock
  qlen : ∀ k, (Q k).length ≤ 1000
theorem TBx.tq {w : World} {B g added : Nat} {left : List En} {lA : Option Addr} {lc : Nat} {m : Option Nat} {n : Nat} {f : ByteArray → Value} (h : TBx w B g added left lA lc m n f) : TQ w B g added left lA lc m n f (qOf left) :=
  ⟨h.box, h.low, h.row, h.keys, h.map, h.mlow, h.queue, h.apart, fun k => by have := qOf_len left k; have := h.len; omega⟩
def putQ (Q : ByteArray → List (Nat × Bool)) (x : ByteArray) (q : List (Nat × Bool)) : ByteArray → List (Nat × Bool) := fun j => if by8 j = by8 x then q else Q j
theorem putQ_same (Q : ByteArray → List (Nat × Bool)) (k : ByteArray) (q : List (Nat × Bool)) : putQ Q k q k = q := by simp [putQ]
theorem putQ_other (Q : ByteArray → List (Nat × Bool)) {k j : ByteArray} (h : j ≠ k) (q : List (Nat × Bool)) : putQ Q k q j = Q j := by
  unfold putQ; rw [if_neg fun e => h (by8_inj e)]
theorem none_or (v : Value) : v.ownBlock = none ∨ v.ownBlock ≠ none := by cases v.ownBlock <;> simp

section
variable {w w1 : World} {B g added : Nat} {left : List En} {lA : Option Addr} {lc n : Nat} {m : Option Nat} {f : ByteArray → Value} {Q : ByteArray → List (Nat × Bool)}
theorem TQ.below (h : TQ w B g added left lA lc m n f Q) (hb : Below w.heap.size w w1) : TQ w1 B g added left lA lc m n f Q := by
  refine ⟨h.box.below hb, h.low, own_below h.row hb, fun e he => (h.keys e he).below hb, ?_, h.mlow, fun k => own_below (h.queue k) hb, h.apart, h.qlen⟩
  have hm := h.map
  cases m with
  | none => exact hm
  | some b => exact MP.keep hm (hb.block b (MP.lt hm))
theorem TQ.look (h : TQ w B g added left lA lc m n f Q) (k : ByteArray) (hk : k.size ≤ maxLen) :
    ∃ A c, f k = .slice A (Q k).length c ∧ QS w B A c (Q k) ∧ (Instr.lookup 151 (.map m) (.string k) false).run Tryz.prog w = .ok (.slice A (Q k).length c) w := by
  obtain ⟨A, c, hv, _⟩ := own_parts (h.queue k)
  have hq := h.queue k
  rw [hv] at hq
  refine ⟨A, c, hv, hq, ?_⟩
  have hm := h.map
  cases m with
  | some b => rw [← hv]; exact MP.look hm k hk
  | none =>
    have : f = fun _ => nilV := hm
    rw [← hv, this]
    exact Maps.look_nil false law9 Tryz.underlying151 (zeroQ w) (keyOf_string_mk Tryz.underlying9 hk)
/-- the queue of one key is changed in its own row, or anew, and stored -/
theorem TQ.set {b : Nat} (h : TQ w B g added left lA lc (some b) n f Q) (hB : B ≤ w.heap.size) (hn : n ≤ 1000000) (x : ByteArray) (hx : x.size ≤ maxLen) (v : Value) (q : List (Nat × Bool)) (hg : w.grownBy w1 (f x).ownBlock)
    (ho : w1.ownsRow B 159 2 v q.length (cmCells q)) (hloc : v.ownBlock = (f x).ownBlock ∨ ∀ r, v.ownBlock = some r → w.heap.size ≤ r) (hq : q.length ≤ 1000) :
    ∃ w2, (Instr.mapUpdate 151 (.map (some b)) (.string x) v).run Tryz.prog w1 = .ok () w2 ∧ TQ w2 B g added left lA lc (some b) (n + 1) (putF f x v) (putQ Q x q) ∧ Kp B w w2 ∧ Kp B w1 w2 := by
  have hm : MP w b n f := h.map
  obtain ⟨es, clock, hbm⟩ := hm.isMap
  have hfx : ∀ r, (f x).ownBlock = some r → Ty w r 159 := fun r hr => own_ty (h.queue x) hr
  have hbr : some b ≠ (f x).ownBlock := fun e => by
    obtain ⟨cs, fr, hc⟩ := hfx b e.symm
    rw [hbm] at hc; cases hc
  have hm1 : MP w1 b n f := hm.keep (hg.block b hm.lt hbr)
  obtain ⟨es1, clock1, hbm1⟩ := hm1.isMap
  obtain ⟨w2, hrun, hm2, hg2⟩ := hm1.put hn x hx v
  have keep : ∀ {C : Nat} {t : TypeId} {s : Nat} {u : Value} {k : Nat} {xs : List Value}, w.ownsRow C t s u k xs → (u.ownBlock = none ∨ u.ownBlock ≠ (f x).ownBlock) → w2.ownsRow C t s u k xs := by
    intro C t s u k xs hu hne
    have hu1 := hu.kept hg hne
    exact hu1.kept hg2 (own_ne_map hu1 hbm1)
  have other : ∀ {C : Nat} {t : TypeId} {s : Nat} {u : Value} {k : Nat} {xs : List Value}, w.ownsRow C t s u k xs → t ≠ 159 → w2.ownsRow C t s u k xs := by
    intro C t s u k xs hu ht
    refine keep hu ?_
    cases hr : (f x).ownBlock with
    | none => exact none_or u
    | some r => exact own_ne hu (hfx r hr) ht
  have hbox1 : Box w1 g 153 #[.int .i64 (added : Int), .slice lA left.length lc, .map (some b)] := h.box.keep (hg.block g h.box.lt fun e => by
    have := (hfx g e.symm).inj h.box.ty
    exact absurd this (by decide))
  refine ⟨w2, hrun, ⟨?_, h.low, other h.row (by decide), fun e he => other (h.keys e he) (by decide), hm2, h.mlow, fun k => ?_, fun j k hjk => ?_, fun k => ?_⟩, ?_, ?_⟩
  · exact hbox1.keep (hg2.block g hbox1.lt fun e => by
      injection e with e
      have := hbox1
      unfold Box at this
      rw [e, hbm1] at this; cases this)
  · by_cases e : k = x
    · subst e; rw [putF_same, putQ_same]; exact ho.kept hg2 (own_ne_map ho hbm1)
    · rw [putF_other _ e, putQ_other _ e]; exact keep (h.queue k) (h.apart k x e)
  · have new_old : ∀ k, k ≠ x → v.ownBlock = none ∨ v.ownBlock ≠ (f k).ownBlock := by
      intro k hk
      cases hv : v.ownBlock with
      | none => exact .inl rfl
      | some r =>
        refine .inr fun e => ?_
        rcases hloc with hl | hl
        · rcases h.apart k x hk with h1 | h1
          · rw [h1] at e; cases e
          · exact h1 (by rw [← e, ← hv, hl])
        · have h1 := hl r hv
          have h2 := ((h.queue k).lt r e.symm).2
          omega
    by_cases ej : j = x
    · subst ej
      have hk : k ≠ j := fun e => hjk e.symm
      rw [putF_same, putF_other _ hk]; exact new_old k hk
    · by_cases ek : k = x
      · subst ek
        rw [putF_same, putF_other _ ej]
        cases hf : (f j).ownBlock with
        | none => exact .inl rfl
        | some r =>
          refine .inr fun e => ?_
          rcases new_old j ej with h1 | h1
          · rw [h1] at e; cases e
          · exact h1 (by rw [← e, hf])
      · rw [putF_other _ ej, putF_other _ ek]; exact h.apart j k hjk
  · by_cases e : k = x
    · subst e; rw [putQ_same]; exact hq
    · rw [putQ_other _ e]; exact h.qlen k
  · have k1 : Kp B w w1 := Kp.of_grown hg hB fun r hr => ⟨((h.queue x).lt r hr).1, .inr (.inr (.inr (hfx r hr)))⟩
    have k2 : Kp B w1 w2 := Kp.of_grown hg2 (Nat.le_trans hB hg.size) fun r hr => by injection hr with hr; subst hr; exact ⟨h.mlow b rfl, .inl ⟨es1, clock1, hbm1⟩⟩
    exact k1.trans k2
  · exact Kp.of_grown hg2 (Nat.le_trans hB hg.size) fun r hr => by injection hr with hr; subst hr; exact ⟨h.mlow b rfl, .inl ⟨es1, clock1, hbm1⟩⟩
/-- what is read of the table while a queue's own row is changed -/
theorem TQ.read {b : Nat} (h : TQ w B g added left lA lc (some b) n f Q) (x : ByteArray) (hx : x.size ≤ maxLen) (hg : w.grownBy w1 (f x).ownBlock) :
    w1.cell? ⟨g, 2, none⟩ = some (.map (some b)) ∧ (Instr.lookup 151 (.map (some b)) (.string x) false).run Tryz.prog w1 = .ok (f x) w1 := by
  have hm : MP w b n f := h.map
  obtain ⟨es, clock, hbm⟩ := hm.isMap
  have hfx : ∀ r, (f x).ownBlock = some r → Ty w r 159 := fun r hr => own_ty (h.queue x) hr
  have hbr : some b ≠ (f x).ownBlock := fun e => by
    obtain ⟨cs, fr, hc⟩ := hfx b e.symm
    rw [hbm] at hc; cases hc
  have hbox1 : Box w1 g 153 #[.int .i64 (added : Int), .slice lA left.length lc, .map (some b)] := h.box.keep (hg.block g h.box.lt fun e => by
    have := (hfx g e.symm).inj h.box.ty
    exact absurd this (by decide))
  exact ⟨hbox1.cell 2 rfl, (hm.keep (hg.block b hm.lt hbr)).look x hx⟩
/-- an empty queue is taken out of the map -/
theorem TQ.del {b : Nat} (h : TQ w B g added left lA lc (some b) n f Q) (hB : B ≤ w.heap.size) (x : ByteArray) (hx : x.size ≤ maxLen) (hq : Q x = []) (ty : TypeId) :
    ∃ w2, (Builtin.delete_ #[151, 9] ty #[.map (some b), .string x]).run Tryz.prog w = .ok (.tuple #[]) w2 ∧ TQ w2 B g added left lA lc (some b) n (putF f x nilV) Q ∧ Kp B w w2 := by
  have hm : MP w b n f := h.map
  obtain ⟨es, clock, hbm⟩ := hm.isMap
  obtain ⟨w2, hrun, hm2, hg2⟩ := hm.del x hx ty
  have keep : ∀ {C : Nat} {t : TypeId} {s : Nat} {u : Value} {k : Nat} {xs : List Value}, w.ownsRow C t s u k xs → w2.ownsRow C t s u k xs := fun hu => hu.kept hg2 (own_ne_map hu hbm)
  refine ⟨w2, hrun, ⟨?_, h.low, keep h.row, fun e he => keep (h.keys e he), hm2, h.mlow, fun k => ?_, fun j k hjk => ?_, h.qlen⟩, ?_⟩
  · exact h.box.keep (hg2.block g h.box.lt fun e => by
      injection e with e
      have := h.box
      unfold Box at this
      rw [e, hbm] at this; cases this)
  · by_cases e : k = x
    · subst e; rw [putF_same, hq]; exact World.ownsRow_nil _ _ _ _
    · rw [putF_other _ e]; exact keep (h.queue k)
  · by_cases ej : j = x
    · subst ej; rw [putF_same]; exact .inl rfl
    · by_cases ek : k = x
      · subst ek; rw [putF_same]; exact none_or _
      · rw [putF_other _ ej, putF_other _ ek]; exact h.apart j k hjk
  · exact Kp.of_grown hg2 hB fun r hr => by injection hr with hr; subst hr; exact ⟨h.mlow b rfl, .inl ⟨es, clock, hbm⟩⟩
/-- a row lies apart from the table's own block -/
theorem TQ.ne_box (h : TQ w B g added left lA lc m n f Q) {C : Nat} {t : TypeId} {s : Nat} {u : Value} {k : Nat} {xs : List Value} (hu : w.ownsRow C t s u k xs) (ht : t ≠ 153) (i : Nat) (v : Value) : (w.setCell ⟨g, i, none⟩ v).ownsRow C t s u k xs :=
  hu.kept (grown_setCell w ⟨g, i, none⟩ v) (own_ne hu h.box.ty ht)
theorem MPO.box {w w' : World} {m : Option Nat} {n : Nat} {f : ByteArray → Value} (h : MPO w m n f) {r : Option Nat} (hg : w.grownBy w' r) (hr : ∀ b, r = some b → ∃ t, Ty w b t) : MPO w' m n f := by
  cases m with
  | none => exact h
  | some b =>
    refine MP.keep h (hg.block b (MP.lt h) fun e => ?_)
    obtain ⟨t, cs, fr, hc⟩ := hr b e.symm
    obtain ⟨es, clock, hb⟩ := MP.isMap h
    rw [hb] at hc; cases hc
/-- the row of entries is changed in its own row, or anew, and stored -/
theorem TQ.left_ (h : TQ w B g added left lA lc m n f Q) (hB : B ≤ w.heap.size) (left' : List En) (lA' : Option Addr) (lc' : Nat) (hg : w.grownBy w1 (lA.map (·.block)))
    (ho : w1.ownsRow B 155 2 (.slice lA' left'.length lc') left'.length (enCells left')) (hk : ∀ e ∈ left', OR w B 9 e.A e.c ((uK e.d).map Value.string)) :
    Box w1 g 153 #[.int .i64 (added : Int), .slice lA left.length lc, .map m] ∧ TQ (w1.setCell ⟨g, 1, none⟩ (.slice lA' left'.length lc')) B g added left' lA' lc' m n f Q ∧ Kp B w (w1.setCell ⟨g, 1, none⟩ (.slice lA' left'.length lc')) := by
  have hob : (Value.slice lA left.length lc).ownBlock = lA.map (·.block) := by cases lA <;> rfl
  have hty : ∀ r, lA.map (·.block) = some r → Ty w r 155 := fun r hr => own_ty h.row (by rw [hob]; exact hr)
  have hlow : ∀ r, lA.map (·.block) = some r → B ≤ r := fun r hr => (h.row.lt r (by rw [hob]; exact hr)).1
  have hbox1 : Box w1 g 153 #[.int .i64 (added : Int), .slice lA left.length lc, .map m] := h.box.keep (hg.block g h.box.lt fun e => by
    have := (hty g e.symm).inj h.box.ty
    exact absurd this (by decide))
  have hgs := grown_setCell w1 ⟨g, 1, none⟩ (.slice lA' left'.length lc')
  have keep : ∀ {C : Nat} {t : TypeId} {s : Nat} {u : Value} {k : Nat} {xs : List Value}, w.ownsRow C t s u k xs → t ≠ 155 → t ≠ 153 → (w1.setCell ⟨g, 1, none⟩ (.slice lA' left'.length lc')).ownsRow C t s u k xs := by
    intro C t s u k xs hu ht ht2
    have hu1 : w1.ownsRow C t s u k xs := hu.kept hg (by
      cases hr : lA.map (·.block) with
      | none => exact none_or u
      | some r => exact own_ne hu (hty r hr) ht)
    exact hu1.kept hgs (own_ne hu1 hbox1.ty ht2)
  refine ⟨hbox1, ⟨?_, h.low, ho.kept hgs (own_ne ho hbox1.ty (by decide)), fun e he => keep (hk e he) (by decide) (by decide), ?_, h.mlow, fun k => keep (h.queue k) (by decide) (by decide), h.apart, h.qlen⟩, ?_⟩
  · have := hbox1.set 1 (.slice lA' left'.length lc')
    simpa using this
  · exact (h.map.box hg fun b hb => ⟨_, hty b hb⟩).box hgs fun b hb => by injection hb with hb; subst hb; exact ⟨_, hbox1.ty⟩
  · have k1 : Kp B w w1 := Kp.of_grown hg hB fun r hr => ⟨hlow r hr, .inr (.inr (.inl (hty r hr)))⟩
    have k2 := Kp.of_grown (B := B) hgs (Nat.le_trans hB hg.size) fun r hr => by injection hr with hr; subst hr; exact ⟨h.low, .inr (.inl hbox1.ty)⟩
    exact k1.trans k2
/-- one more is counted -/
theorem TQ.count (h : TQ w B g added left lA lc m n f Q) (hB : B ≤ w.heap.size) : TQ (w.setCell ⟨g, 0, none⟩ (.int .i64 ((added + 1 : Nat) : Int))) B g (added + 1) left lA lc m n f Q ∧ Kp B w (w.setCell ⟨g, 0, none⟩ (.int .i64 ((added + 1 : Nat) : Int))) := by
  have hgs := grown_setCell w ⟨g, 0, none⟩ (.int .i64 ((added + 1 : Nat) : Int))
  refine ⟨⟨?_, h.low, h.ne_box h.row (by decide) _ _, fun e he => h.ne_box (h.keys e he) (by decide) _ _, ?_, h.mlow, fun k => h.ne_box (h.queue k) (by decide) _ _, h.apart, h.qlen⟩, ?_⟩
  · have := h.box.set 0 (.int .i64 ((added + 1 : Nat) : Int))
    simpa using this
  · exact h.map.box hgs fun b hb => by injection hb with hb; subst hb; exact ⟨_, h.box.ty⟩
  · exact Kp.of_grown (B := B) hgs hB fun r hr => by injection hr with hr; subst hr; exact ⟨h.low, .inr (.inl h.box.ty)⟩
end
end Go.Proofs.YtpefdonhacmaoaaGreat
