/-
  slices.Delete of one entry.
  The lock table while a call changes its queues (no body of the program in it).
-/
import Derived.Test.YtefdipjhjgmokaaGreatBv44
set_option linter.unusedVariables false
set_option linter.unusedSimpArgs false
namespace Go.Proofs.YtefdipjhjgmokaaGreat
open Go.RowKit Go.WideMaps Go.Maps

theorem zeroE (w : World) : (zeroValue 132).run Tryz.prog w = .ok (.agg #[.int .i64 0, .slice none 0 0]) w := by kernel_rfl
/-- a row of one's own, cut short -/
theorem own_take {w : World} {B : Nat} {t : TypeId} {g c n : Nat} {xs : List Value} (h : w.ownsRow B t 2 (.slice (some ⟨g, 0, none⟩) n c) n xs) {i : Nat} (hi : i ≤ n) : w.ownsRow B t 2 (.slice (some ⟨g, 0, none⟩) i c) i (xs.take (i * 2)) := by
  rcases h.2 with ⟨hv, _⟩ | ⟨g', cap', cur, hv, hbg, hg, h3, h4, h5, h6⟩
  · cases hv
  · simp only [Value.slice.injEq, Option.some.injEq, Addr.mk.injEq, and_true, true_and] at hv
    obtain ⟨rfl, rfl⟩ := hv
    refine ⟨by rw [List.length_take, h.1]; omega, .inr ⟨g, c, cur, rfl, hbg, hg, by omega, h4, h5, ?_⟩⟩
    rw [← h6, List.take_take]; congr 1; omega

theorem edel_run (g c B i n : Nat) (left : List En) (w : World) (hn : left.length = n + 1) (hi : i ≤ n) (hA : w.ownsRow B 132 2 (.slice (some ⟨g, 0, none⟩) (n + 1) c) (n + 1) (enCells left)) :
    ∃ w2 w3, (∀ ty, (Builtin.append_ #[127, 127] ty #[.slice (some ⟨g, 0, none⟩) i c, .slice (if c = i + 1 then some ⟨g, 0, none⟩ else some ⟨g, (i + 1) * 2, none⟩) (n - i) (c - (i + 1))]).run Tryz.prog w = .ok (.slice (some ⟨g, 0, none⟩) n c) w2) ∧
      (Builtin.clear_ #[127] 0 #[.slice (some ⟨g, n * 2, none⟩) 1 (c - n)]).run Tryz.prog w2 = .ok (.tuple #[]) w3 ∧ w3.ownsRow B 132 2 (.slice (some ⟨g, 0, none⟩) n c) n (enCells (left.eraseIdx i)) ∧ w.grownBy w3 (some g) ∧ n + 1 ≤ c ∧ c ≤ maxLen := by
  obtain ⟨hqc, hcm⟩ : n + 1 ≤ c ∧ c ≤ maxLen := by
    rcases hA.2 with ⟨hv, _⟩ | ⟨g', cap', cur, hv, _, hg, h3, h4, h5, h6⟩
    · cases hv
    · injection hv with _ _ e; subst e; exact ⟨h3, h4⟩
  have e1 : enCells left = enCells (left.take i) ++ enCells (left.drop i) := by rw [← enCells_append, List.take_append_drop]
  have l1 : (enCells (left.take i)).length = i * 2 := by rw [enCells_length, List.length_take]; congr 1; omega
  have e2 : (enCells left).take (i * 2) = enCells (left.take i) := by rw [e1, ← l1, List.take_left]
  have e3 : enCells (left.eraseIdx i) = enCells (left.take i) ++ enCells (left.drop (i + 1)) := by rw [List.eraseIdx_eq_take_drop_succ, enCells_append]
  have l2 : (enCells (left.drop (i + 1))).length = (n - i) * 2 := by rw [enCells_length, List.length_drop]; congr 1; omega
  have hown := own_take hA (i := i) (by omega)
  rw [e2] at hown
  have hcell := World.ownsRow.cells hA (g := g) rfl
  have hsrc : ∀ (j : Nat) (u : Value), (enCells (left.drop (i + 1)))[j]? = some u → w.cell? ((⟨g, (i + 1) * 2, none⟩ : Addr).add j) = some u := by
    intro j u hu
    have h7 : enCells left = enCells (left.take (i + 1)) ++ enCells (left.drop (i + 1)) := by rw [← enCells_append, List.take_append_drop]
    have h8 : (enCells (left.take (i + 1))).length = (i + 1) * 2 := by rw [enCells_length, List.length_take]; congr 1; omega
    have := hcell ((i + 1) * 2 + j) u (by rw [h7, List.getElem?_append_right (by omega), h8]; rw [show (i + 1) * 2 + j - (i + 1) * 2 = j by omega]; exact hu)
    rw [Addr.add_lit] at this ⊢
    rw [Nat.zero_add] at this
    exact this
  obtain ⟨i0, hi0, hz0, hz1, hz2⟩ := info_parts enInfo
  have hap : ∃ w', (∀ ty, (Builtin.append_ #[127, 127] ty #[.slice (some ⟨g, 0, none⟩) i c, .slice (if c = i + 1 then some ⟨g, 0, none⟩ else some ⟨g, (i + 1) * 2, none⟩) (n - i) (c - (i + 1))]).run Tryz.prog w = .ok (.slice (some ⟨g, 0, none⟩) n c) w') ∧
      w'.ownsRow B 132 2 (.slice (some ⟨g, 0, none⟩) n c) n (enCells (left.eraseIdx i)) ∧ w.grownBy w' (some g) := by
    have key : ∀ ad : Addr, (∀ (j : Nat) (u : Value), (enCells (left.drop (i + 1)))[j]? = some u → w.cell? (ad.add j) = some u) → ∃ w', (∀ ty, (Builtin.append_ #[127, 127] ty #[.slice (some ⟨g, 0, none⟩) i c, .slice (some ad) (n - i) (c - (i + 1))]).run Tryz.prog w = .ok (.slice (some ⟨g, 0, none⟩) n c) w') ∧
      w'.ownsRow B 132 2 (.slice (some ⟨g, 0, none⟩) n c) n (enCells (left.eraseIdx i)) ∧ w.grownBy w' (some g) := by
      intro ad had
      have h9 := fun ty => run_append_fits (P := Tryz.prog) w B 127 ty 132 i0 2 Tryz.underlying127 hi0 hz1 g i c _ hown ad (n - i) (c - (i + 1)) (enCells (left.drop (i + 1))) l2 had (enCells_one _) (by omega)
      obtain ⟨w', hr, ho, hg⟩ := h9 0
      rw [show i + (n - i) = n by omega, ← e3] at ho
      rw [show i + (n - i) = n by omega] at hr
      refine ⟨w', fun ty => ?_, ho, hg⟩
      rw [← hr]; rfl
    by_cases hc : c = i + 1
    · rw [if_pos hc]
      refine key _ fun j u hu => ?_
      have : (enCells (left.drop (i + 1))) = [] := by
        rw [List.drop_eq_nil_iff.2 (by omega)]; rfl
      rw [this] at hu; simp at hu
    · rw [if_neg hc]; exact key _ hsrc
  obtain ⟨w2, hrun, hown2, hg2⟩ := hap
  obtain ⟨w3, hrun3, hown3, hg3⟩ := clear_tail Tryz.underlying127 zeroE rfl (by intro u hu; simp [Value.cells] at hu; rcases hu with rfl | rfl <;> rfl) w2 B g (n + 1) n c _ hown2 (by omega) hqc (c - n) 0
  rw [show n + 1 - n = 1 by omega] at hrun3
  exact ⟨w2, w3, hrun, hrun3, hown3, grown_transL hg2 hg3, hqc, hcm⟩

set_option maxHeartbeats 1000000 in
set_option maxRecDepth 100000 in
theorem edelete_any (A : Option Addr) (c B i n : Nat) (left : List En) (w : World) (hn : left.length = n + 1) (hi : i ≤ n) (hA : w.ownsRow B 132 2 (.slice A (n + 1) c) (n + 1) (enCells left)) (hl : n ≤ 1000) :
    Calls Tryz.prog 61 #[.slice A (n + 1) c, .int .i64 (i : Int), .int .i64 ((i : Int) + 1)] w fun e w' =>
      e = .returned (.slice A n c) ∧ w'.ownsRow B 132 2 (.slice A n c) n (enCells (left.eraseIdx i)) ∧ w.grownBy w' (A.map (·.block)) := by
  obtain ⟨g, rfl⟩ : ∃ g, A = some ⟨g, 0, none⟩ := by
    obtain ⟨g, cap, hv, hbg, hlt⟩ := World.ownsRow.form hA (by omega)
    injection hv with a _ _
    exact ⟨g, a⟩
  obtain ⟨w2, w3, hrun, hrun3, hown3, hg4, hqc, hcm⟩ := edel_run g c B i n left w.drew hn hi hA
  have hg5 : w.grownBy w3 (some g) := ⟨hg4.os, hg4.tape, hg4.output, hg4.size, hg4.block⟩
  clear hA hg4
  have g0 : (0 : Int) ≤ (i : Int) := by omega
  have g1 : (i : Int) ≤ (i : Int) + 1 := by omega
  have g2 : (i : Int) + 1 ≤ (n : Int) + 1 := by omega
  have g3 : (n : Int) + 1 ≤ (c : Int) := by omega
  have g4 : ((i : Int) == (i : Int) + 1) = false := by simp; omega
  have g5 : (i : Int) ≤ (c : Int) := by omega
  have g6 : (0 : Int) ≤ (i : Int) + 1 := by omega
  have g7 : ((i : Int) + 1).toNat = i + 1 := by omega
  have g8 : ((n : Int) + 1).toNat = n + 1 := by omega
  have g9 : ¬ c = n := by omega
  have g10 : (0 : Int) ≤ (n : Int) := by omega
  have g11 : (n : Int) ≤ (n : Int) + 1 := by omega
  go_enter Tryz.func61, Tryz.ntmps61
  go_wp2_with fail
  refine wp_still_drew 6 (by kernel_rfl) ?_
  generalize w.drew = w1 at hrun ⊢
  have HR := hideP hrun
  clear hrun
  simp only [List.take_succ_cons, List.take_zero, List.drop_succ_cons, List.drop_zero]
  by_cases hc : c = i + 1
  · rw [if_pos hc, show n - i = 0 by omega, show c - (i + 1) = 0 by omega] at HR
    subst hc
    repeat still_step
    refine wpStill_nil ?_
    go_wp2_with (at_builtin; refine Lib.wpList_append_run _ rfl _ _ _ _ rfl _ _ rfl rfl _ _ (HR.out _) ?_)
    go_ret
    exact ⟨rfl, hown3, hg5⟩
  · rw [if_neg hc] at HR
    repeat still_step
    refine wpStill_nil ?_
    go_wp2_with (at_builtin; refine Lib.wpList_append_run _ rfl _ _ _ _ rfl _ _ rfl rfl _ _ (HR.out _) ?_)
    go_ret
    exact ⟨rfl, hown3, hg5⟩
end Go.Proofs.YtefdipjhjgmokaaGreat

set_option linter.unusedVariables false
set_option linter.unusedSimpArgs false
namespace Go.Proofs.YtefdipjhjgmokaaGreat
open Go.RowKit Go.WideMaps Go.Maps

/-- a table whose queues are Q -/
structure TQ (w : World) (B g added : Nat) (left : List En) (lA : Option Addr) (lc : Nat) (m : Option Nat) (n : Nat) (f : ByteArray → Value) (Q : ByteArray → List (Nat × Bool)) : Prop where
  box : Box w g 130 #[.int .i64 (added : Int), .slice lA left.length lc, .map m]
  low : B ≤ g
  row : w.ownsRow B 132 2 (.slice lA left.length lc) left.length (enCells left)
  keys : ∀ e ∈ left, OR w B 9 e.A e.c ((uK e.d).map Value.string)
  map : MPO w m n f
  mlow : ∀ b, m = some b → B ≤ b
  queue : ∀ k, w.ownsRow B 138 2 (f k) (Q k).length (cmCells (Q k))
  apart : ∀ j k, j ≠ k → (f j).ownBlock = none ∨ (f j).ownBlock ≠ (f k).ownBlock
  qlen : ∀ k, (Q k).length ≤ 1000
theorem TBx.tq {w : World} {B g added : Nat} {left : List En} {lA : Option Addr} {lc : Nat} {m : Option Nat} {n : Nat} {f : ByteArray → Value} (h : TBx w B g added left lA lc m n f) : TQ w B g added left lA lc m n f (qOf left) :=
  ⟨h.box, h.low, h.row, h.keys, h.map, h.mlow, h.queue, h.apart, fun k => by have := qOf_len left k; have := h.len; omega⟩
def putQ (Q : ByteArray → List (Nat × Bool)) (x : ByteArray) (q : List (Nat × Bool)) : ByteArray → List (Nat × Bool) := fun j => if by8 j = by8 x then q else Q j
theorem putQ_same (Q : ByteArray → List (Nat × Bool)) (k : ByteArray) (q : List (Nat × Bool)) : putQ Q k q k = q := by simp [putQ]
theorem putQ_other (Q : ByteArray → List (Nat × Bool)) {k j : ByteArray} (h : j ≠ k) (q : List (Nat × Bool)) : putQ Q k q j = Q j := by
  unfold putQ; rw [if_neg fun e => h (by8_inj e)]
theorem none_or (v : Value) : v.ownBlock = none ∨ v.ownBlock ≠ none := by cases v.ownBlock <;> simp

section
variable {w w1 : World} {B g added : Nat} {left : List En} {lA : Option Addr} {lc n : Nat} {m : Option Nat} {f : ByteArray → Value} {Q : ByteArray → List (Nat × Bool)}
theorem TQ.below (h : TQ w B g added left lA lc m n f Q) (hb : Below w.heap.size w w1) : TQ w1 B g added left lA lc m n f Q := by
  refine ⟨h.box.below hb, h.low, own_below h.row hb, fun e he => (h.keys e he).below hb, ?_, h.mlow, fun k => own_below (h.queue k) hb, h.apart, h.qlen⟩
  have hm := h.map
  cases m with
  | none => exact hm
  | some b => exact MP.keep hm (hb.block b (MP.lt hm))
theorem TQ.look (h : TQ w B g added left lA lc m n f Q) (k : ByteArray) (hk : k.size ≤ maxLen) :
    ∃ A c, f k = .slice A (Q k).length c ∧ QS w B A c (Q k) ∧ (Instr.lookup 128 (.map m) (.string k) false).run Tryz.prog w = .ok (.slice A (Q k).length c) w := by
  obtain ⟨A, c, hv, _⟩ := own_parts (h.queue k)
  have hq := h.queue k
  rw [hv] at hq
  refine ⟨A, c, hv, hq, ?_⟩
  have hm := h.map
  cases m with
  | some b => rw [← hv]; exact MP.look hm k hk
  | none =>
    have : f = fun _ => nilV := hm
    rw [← hv, this]
    exact Maps.look_nil false law9 Tryz.underlying128 (zeroQ w) (keyOf_string_mk Tryz.underlying9 hk)
/-- the queue of one key is changed in its own row, or anew, and stored -/
theorem TQ.set {b : Nat} (h : TQ w B g added left lA lc (some b) n f Q) (hB : B ≤ w.heap.size) (hn : n ≤ 1000000) (x : ByteArray) (hx : x.size ≤ maxLen) (v : Value) (q : List (Nat × Bool)) (hg : w.grownBy w1 (f x).ownBlock)
    (ho : w1.ownsRow B 138 2 v q.length (cmCells q)) (hloc : v.ownBlock = (f x).ownBlock ∨ ∀ r, v.ownBlock = some r → w.heap.size ≤ r) (hq : q.length ≤ 1000) :
    ∃ w2, (Instr.mapUpdate 128 (.map (some b)) (.string x) v).run Tryz.prog w1 = .ok () w2 ∧ TQ w2 B g added left lA lc (some b) (n + 1) (putF f x v) (putQ Q x q) ∧ Kp B w w2 ∧ Kp B w1 w2 := by
  have hm : MP w b n f := h.map
  obtain ⟨es, clock, hbm⟩ := hm.isMap
  have hfx : ∀ r, (f x).ownBlock = some r → Ty w r 138 := fun r hr => own_ty (h.queue x) hr
  have hbr : some b ≠ (f x).ownBlock := fun e => by
    obtain ⟨cs, fr, hc⟩ := hfx b e.symm
    rw [hbm] at hc; cases hc
  have hm1 : MP w1 b n f := hm.keep (hg.block b hm.lt hbr)
  obtain ⟨es1, clock1, hbm1⟩ := hm1.isMap
  obtain ⟨w2, hrun, hm2, hg2⟩ := hm1.put hn x hx v
  have keep : ∀ {C : Nat} {t : TypeId} {s : Nat} {u : Value} {k : Nat} {xs : List Value}, w.ownsRow C t s u k xs → (u.ownBlock = none ∨ u.ownBlock ≠ (f x).ownBlock) → w2.ownsRow C t s u k xs := by
    intro C t s u k xs hu hne
    have hu1 := hu.kept hg hne
    exact hu1.kept hg2 (own_ne_map hu1 hbm1)
  have other : ∀ {C : Nat} {t : TypeId} {s : Nat} {u : Value} {k : Nat} {xs : List Value}, w.ownsRow C t s u k xs → t ≠ 138 → w2.ownsRow C t s u k xs := by
    intro C t s u k xs hu ht
    refine keep hu ?_
    cases hr : (f x).ownBlock with
    | none => exact none_or u
    | some r => exact own_ne hu (hfx r hr) ht
  have hbox1 : Box w1 g 130 #[.int .i64 (added : Int), .slice lA left.length lc, .map (some b)] := h.box.keep (hg.block g h.box.lt fun e => by
    have := (hfx g e.symm).inj h.box.ty
    exact absurd this (by decide))
  refine ⟨w2, hrun, ⟨?_, h.low, other h.row (by decide), fun e he => other (h.keys e he) (by decide), hm2, h.mlow, fun k => ?_, fun j k hjk => ?_, fun k => ?_⟩, ?_, ?_⟩
  · exact hbox1.keep (hg2.block g hbox1.lt fun e => by
      injection e with e
      have := hbox1
      unfold Box at this
      rw [e, hbm1] at this; cases this)
  · by_cases e : k = x
    · subst e; rw [putF_same, putQ_same]; exact ho.kept hg2 (own_ne_map ho hbm1)
    · rw [putF_other _ e, putQ_other _ e]; exact keep (h.queue k) (h.apart k x e)
  · have new_old : ∀ k, k ≠ x → v.ownBlock = none ∨ v.ownBlock ≠ (f k).ownBlock := by
      intro k hk
      cases hv : v.ownBlock with
      | none => exact .inl rfl
      | some r =>
        refine .inr fun e => ?_
        rcases hloc with hl | hl
        · rcases h.apart k x hk with h1 | h1
          · rw [h1] at e; cases e
          · exact h1 (by rw [← e, ← hv, hl])
        · have h1 := hl r hv
          have h2 := ((h.queue k).lt r e.symm).2
          omega
    by_cases ej : j = x
    · subst ej
      have hk : k ≠ j := fun e => hjk e.symm
      rw [putF_same, putF_other _ hk]; exact new_old k hk
    · by_cases ek : k = x
      · subst ek
        rw [putF_same, putF_other _ ej]
        cases hf : (f j).ownBlock with
        | none => exact .inl rfl
        | some r =>
          refine .inr fun e => ?_
          rcases new_old j ej with h1 | h1
          · rw [h1] at e; cases e
          · exact h1 (by rw [← e, hf])
      · rw [putF_other _ ej, putF_other _ ek]; exact h.apart j k hjk
  · by_cases e : k = x
    · subst e; rw [putQ_same]; exact hq
    · rw [putQ_other _ e]; exact h.qlen k
  · have k1 : Kp B w w1 := Kp.of_grown hg hB fun r hr => ⟨((h.queue x).lt r hr).1, .inr (.inr (.inr (hfx r hr)))⟩
    have k2 : Kp B w1 w2 := Kp.of_grown hg2 (Nat.le_trans hB hg.size) fun r hr => by injection hr with hr; subst hr; exact ⟨h.mlow b rfl, .inl ⟨es1, clock1, hbm1⟩⟩
    exact k1.trans k2
  · exact Kp.of_grown hg2 (Nat.le_trans hB hg.size) fun r hr => by injection hr with hr; subst hr; exact ⟨h.mlow b rfl, .inl ⟨es1, clock1, hbm1⟩⟩
/-- what is read of the table while a queue's own row is changed -/
theorem TQ.read {b : Nat} (h : TQ w B g added left lA lc (some b) n f Q) (x : ByteArray) (hx : x.size ≤ maxLen) (hg : w.grownBy w1 (f x).ownBlock) :
    w1.cell? ⟨g, 2, none⟩ = some (.map (some b)) ∧ (Instr.lookup 128 (.map (some b)) (.string x) false).run Tryz.prog w1 = .ok (f x) w1 := by
  have hm : MP w b n f := h.map
  obtain ⟨es, clock, hbm⟩ := hm.isMap
  have hfx : ∀ r, (f x).ownBlock = some r → Ty w r 138 := fun r hr => own_ty (h.queue x) hr
  have hbr : some b ≠ (f x).ownBlock := fun e => by
    obtain ⟨cs, fr, hc⟩ := hfx b e.symm
    rw [hbm] at hc; cases hc
  have hbox1 : Box w1 g 130 #[.int .i64 (added : Int), .slice lA left.length lc, .map (some b)] := h.box.keep (hg.block g h.box.lt fun e => by
    have := (hfx g e.symm).inj h.box.ty
    exact absurd this (by decide))
  exact ⟨hbox1.cell 2 rfl, (hm.keep (hg.block b hm.lt hbr)).look x hx⟩
/-- an empty queue is taken out of the map -/
theorem TQ.del {b : Nat} (h : TQ w B g added left lA lc (some b) n f Q) (hB : B ≤ w.heap.size) (x : ByteArray) (hx : x.size ≤ maxLen) (hq : Q x = []) (ty : TypeId) :
    ∃ w2, (Builtin.delete_ #[128, 9] ty #[.map (some b), .string x]).run Tryz.prog w = .ok (.tuple #[]) w2 ∧ TQ w2 B g added left lA lc (some b) n (putF f x nilV) Q ∧ Kp B w w2 := by
  have hm : MP w b n f := h.map
  obtain ⟨es, clock, hbm⟩ := hm.isMap
  obtain ⟨w2, hrun, hm2, hg2⟩ := hm.del x hx ty
  have keep : ∀ {C : Nat} {t : TypeId} {s : Nat} {u : Value} {k : Nat} {xs : List Value}, w.ownsRow C t s u k xs → w2.ownsRow C t s u k xs := fun hu => hu.kept hg2 (own_ne_map hu hbm)
  refine ⟨w2, hrun, ⟨?_, h.low, keep h.row, fun e he => keep (h.keys e he), hm2, h.mlow, fun k => ?_, fun j k hjk => ?_, h.qlen⟩, ?_⟩
  · exact h.box.keep (hg2.block g h.box.lt fun e => by
      injection e with e
      have := h.box
      unfold Box at this
      rw [e, hbm] at this; cases this)
  · by_cases e : k = x
    · subst e; rw [putF_same, hq]; exact World.ownsRow_nil _ _ _ _
    · rw [putF_other _ e]; exact keep (h.queue k)
  · by_cases ej : j = x
    · subst ej; rw [putF_same]; exact .inl rfl
    · by_cases ek : k = x
      · subst ek; rw [putF_same]; exact none_or _
      · rw [putF_other _ ej, putF_other _ ek]; exact h.apart j k hjk
  · exact Kp.of_grown hg2 hB fun r hr => by injection hr with hr; subst hr; exact ⟨h.mlow b rfl, .inl ⟨es, clock, hbm⟩⟩
/-- a row lies apart from the table's own block -/
theorem TQ.ne_box (h : TQ w B g added left lA lc m n f Q) {C : Nat} {t : TypeId} {s : Nat} {u : Value} {k : Nat} {xs : List Value} (hu : w.ownsRow C t s u k xs) (ht : t ≠ 130) (i : Nat) (v : Value) : (w.setCell ⟨g, i, none⟩ v).ownsRow C t s u k xs :=
  hu.kept (grown_setCell w ⟨g, i, none⟩ v) (own_ne hu h.box.ty ht)
theorem MPO.box {w w' : World} {m : Option Nat} {n : Nat} {f : ByteArray → Value} (h : MPO w m n f) {r : Option Nat} (hg : w.grownBy w' r) (hr : ∀ b, r = some b → ∃ t, Ty w b t) : MPO w' m n f := by
  cases m with
  | none => exact h
  | some b =>
    refine MP.keep h (hg.block b (MP.lt h) fun e => ?_)
    obtain ⟨t, cs, fr, hc⟩ := hr b e.symm
    obtain ⟨es, clock, hb⟩ := MP.isMap h
    rw [hb] at hc; cases hc
/-- the row of entries is changed in its own row, or anew, and stored -/
theorem TQ.left_ (h : TQ w B g added left lA lc m n f Q) (hB : B ≤ w.heap.size) (left' : List En) (lA' : Option Addr) (lc' : Nat) (hg : w.grownBy w1 (lA.map (·.block)))
    (ho : w1.ownsRow B 132 2 (.slice lA' left'.length lc') left'.length (enCells left')) (hk : ∀ e ∈ left', OR w B 9 e.A e.c ((uK e.d).map Value.string)) :
    Box w1 g 130 #[.int .i64 (added : Int), .slice lA left.length lc, .map m] ∧ TQ (w1.setCell ⟨g, 1, none⟩ (.slice lA' left'.length lc')) B g added left' lA' lc' m n f Q ∧ Kp B w (w1.setCell ⟨g, 1, none⟩ (.slice lA' left'.length lc')) := by
  have hob : (Value.slice lA left.length lc).ownBlock = lA.map (·.block) := by cases lA <;> rfl
  have hty : ∀ r, lA.map (·.block) = some r → Ty w r 132 := fun r hr => own_ty h.row (by rw [hob]; exact hr)
  have hlow : ∀ r, lA.map (·.block) = some r → B ≤ r := fun r hr => (h.row.lt r (by rw [hob]; exact hr)).1
  have hbox1 : Box w1 g 130 #[.int .i64 (added : Int), .slice lA left.length lc, .map m] := h.box.keep (hg.block g h.box.lt fun e => by
    have := (hty g e.symm).inj h.box.ty
    exact absurd this (by decide))
  have hgs := grown_setCell w1 ⟨g, 1, none⟩ (.slice lA' left'.length lc')
  have keep : ∀ {C : Nat} {t : TypeId} {s : Nat} {u : Value} {k : Nat} {xs : List Value}, w.ownsRow C t s u k xs → t ≠ 132 → t ≠ 130 → (w1.setCell ⟨g, 1, none⟩ (.slice lA' left'.length lc')).ownsRow C t s u k xs := by
    intro C t s u k xs hu ht ht2
    have hu1 : w1.ownsRow C t s u k xs := hu.kept hg (by
      cases hr : lA.map (·.block) with
      | none => exact none_or u
      | some r => exact own_ne hu (hty r hr) ht)
    exact hu1.kept hgs (own_ne hu1 hbox1.ty ht2)
  refine ⟨hbox1, ⟨?_, h.low, ho.kept hgs (own_ne ho hbox1.ty (by decide)), fun e he => keep (hk e he) (by decide) (by decide), ?_, h.mlow, fun k => keep (h.queue k) (by decide) (by decide), h.apart, h.qlen⟩, ?_⟩
  · have := hbox1.set 1 (.slice lA' left'.length lc')
    simpa using this
  · exact (h.map.box hg fun b hb => ⟨_, hty b hb⟩).box hgs fun b hb => by injection hb with hb; subst hb; exact ⟨_, hbox1.ty⟩
  · have k1 : Kp B w w1 := Kp.of_grown hg hB fun r hr => ⟨hlow r hr, .inr (.inr (.inl (hty r hr)))⟩
    have k2 := Kp.of_grown (B := B) hgs (Nat.le_trans hB hg.size) fun r hr => by injection hr with hr; subst hr; exact ⟨h.low, .inr (.inl hbox1.ty)⟩
    exact k1.trans k2
/-- one more is counted -/
theorem TQ.count (h : TQ w B g added left lA lc m n f Q) (hB : B ≤ w.heap.size) : TQ (w.setCell ⟨g, 0, none⟩ (.int .i64 ((added + 1 : Nat) : Int))) B g (added + 1) left lA lc m n f Q ∧ Kp B w (w.setCell ⟨g, 0, none⟩ (.int .i64 ((added + 1 : Nat) : Int))) := by
  have hgs := grown_setCell w ⟨g, 0, none⟩ (.int .i64 ((added + 1 : Nat) : Int))
  refine ⟨⟨?_, h.low, h.ne_box h.row (by decide) _ _, fun e he => h.ne_box (h.keys e he) (by decide) _ _, ?_, h.mlow, fun k => h.ne_box (h.queue k) (by decide) _ _, h.apart, h.qlen⟩, ?_⟩
  · have := h.box.set 0 (.int .i64 ((added + 1 : Nat) : Int))
    simpa using this
  · exact h.map.box hgs fun b hb => by injection hb with hb; subst hb; exact ⟨_, h.box.ty⟩
  · exact Kp.of_grown (B := B) hgs hB fun r hr => by injection hr with hr; subst hr; exact ⟨h.low, .inr (.inl h.box.ty)⟩
end
end Go.Proofs.YtefdipjhjgmokaaGreat
