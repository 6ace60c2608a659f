/-
  Merging, plainly (no program in it).
  What only a set of blocks, and new ones, change (no body of the program in it).
-/
import Derived.Test.YtefdipjhjgmokaaGreatBv2
set_option linter.unusedVariables false
set_option linter.unusedSimpArgs false
namespace Go.Proofs.YtefdipjhjgmokaaGreat

section
variable {α : Type}
/-- how many batches each input has closed -/
def cloL (ins : List (List (List α))) : List Nat := ins.map (fun b => b.length - 1)
/-- complete rounds -/
def rndM (ins : List (List (List α))) : Nat := (cloL ins).foldl min 60
/-- one round -/
def roundL (ins : List (List (List α))) (r : Nat) : List α := (ins.map fun b => (b[r]?).getD []).flatten
/-- the first rounds -/
def logUp (ins : List (List (List α))) (R : Nat) : List α := ((List.range R).map (roundL ins)).flatten
/-- the log -/
def logM (ins : List (List (List α))) : List α := logUp ins (rndM ins)
/-- the inputs that are waited for -/
def waitM (ins : List (List (List α))) : List Nat := (List.range ins.length).filter fun i => decide ((cloL ins)[i]? = some (rndM ins))
/-- an entry comes in at the open batch of an input -/
def addM (ins : List (List (List α))) (i : Nat) (x : α) : List (List (List α)) := ins.modify i fun b => b.modify (b.length - 1) (· ++ [x])
/-- an input's batch is closed -/
def closeM (ins : List (List (List α))) (i : Nat) : List (List (List α)) := ins.modify i (· ++ [[]])
theorem fold_le (l : List Nat) : ∀ n, l.foldl min n ≤ n ∧ ∀ c ∈ l, l.foldl min n ≤ c := by
  induction l with
  | nil => intro n; exact ⟨Nat.le_refl _, by simp⟩
  | cons a l ih =>
    intro n
    obtain ⟨h1, h2⟩ := ih (min n a)
    refine ⟨by rw [List.foldl_cons]; omega, fun c hc => ?_⟩
    rw [List.foldl_cons]
    rcases List.mem_cons.1 hc with rfl | hc
    · omega
    · exact h2 c hc
theorem fold_ge (l : List Nat) : ∀ n m, m ≤ n → (∀ c ∈ l, m ≤ c) → m ≤ l.foldl min n := by
  induction l with
  | nil => intro n m h _; exact h
  | cons a l ih =>
    intro n m h h2
    rw [List.foldl_cons]
    exact ih _ _ (by have := h2 a (by simp); omega) (fun c hc => h2 c (by simp [hc]))
theorem fold_hit (l : List Nat) : ∀ n, l.foldl min n = n ∨ l.foldl min n ∈ l := by
  induction l with
  | nil => intro n; exact .inl rfl
  | cons a l ih =>
    intro n
    rw [List.foldl_cons]
    rcases ih (min n a) with h | h
    · rcases Nat.le_total n a with h2 | h2
      · left; rw [h]; omega
      · right; rw [h, Nat.min_eq_right h2]; simp
    · right; simp [h]
theorem rnd_le (ins : List (List (List α))) {b : List (List α)} (h : b ∈ ins) : rndM ins ≤ b.length - 1 := (fold_le _ 60).2 _ (List.mem_map_of_mem h)
theorem rnd_60 (ins : List (List (List α))) : rndM ins ≤ 60 := (fold_le _ 60).1
theorem rnd_ge (ins : List (List (List α))) {m : Nat} (h0 : m ≤ 60) (h : ∀ b ∈ ins, m ≤ b.length - 1) : m ≤ rndM ins := fold_ge _ _ _ h0 fun c hc => by
  obtain ⟨b, hb, rfl⟩ := List.mem_map.1 hc
  exact h b hb
theorem rnd_hit (ins : List (List (List α))) (hne : ins ≠ []) (h : ∀ b ∈ ins, b.length - 1 ≤ 60) : ∃ b ∈ ins, rndM ins = b.length - 1 := by
  rcases fold_hit (cloL ins) 60 with e | e
  · cases ins with
    | nil => exact absurd rfl hne
    | cons b r =>
      refine ⟨b, by simp, ?_⟩
      have h1 := h b (by simp)
      have h2 := rnd_le (b :: r) (b := b) (by simp)
      have e' : rndM (b :: r) = 60 := e
      omega
  · obtain ⟨b, hb, e2⟩ := List.mem_map.1 e
    exact ⟨b, hb, e2.symm⟩
theorem modify_map {β γ : Type} (f : β → γ) (g : β → β) (l : List β) (i : Nat) (h : ∀ a, l[i]? = some a → f (g a) = f a) : (l.modify i g).map f = l.map f := by
  refine List.ext_getElem? fun j => ?_
  rw [List.getElem?_map, List.getElem?_map, List.getElem?_modify]
  cases e : l[j]? with
  | none => rfl
  | some a =>
    by_cases hij : i = j
    · subst hij; simp [h a e]
    · simp [hij]
theorem clo_add (ins : List (List (List α))) (i : Nat) (x : α) : cloL (addM ins i x) = cloL ins := modify_map _ _ _ _ fun a _ => by simp
theorem rnd_add (ins : List (List (List α))) (i : Nat) (x : α) : rndM (addM ins i x) = rndM ins := by unfold rndM; rw [clo_add]
theorem wait_add (ins : List (List (List α))) (i : Nat) (x : α) : waitM (addM ins i x) = waitM ins := by
  unfold waitM; rw [rnd_add, clo_add, show (addM ins i x).length = ins.length by simp [addM]]
theorem round_add (ins : List (List (List α))) (i : Nat) (x : α) {r : Nat} (h : r < rndM ins) : roundL (addM ins i x) r = roundL ins r := by
  unfold roundL
  rw [show (addM ins i x).map (fun b => (b[r]?).getD []) = ins.map (fun b => (b[r]?).getD []) from modify_map _ _ _ _ fun a ha => by
    have := rnd_le ins (List.mem_of_getElem? ha)
    rw [List.getElem?_modify]
    have hne : ¬ a.length - 1 = r := by omega
    simp only [hne, if_false]
    cases a[r]? <;> rfl]
theorem logUp_congr {ins ins' : List (List (List α))} {R : Nat} (h : ∀ r, r < R → roundL ins r = roundL ins' r) : logUp ins R = logUp ins' R := by
  unfold logUp
  rw [List.map_congr_left fun r hr => h r (List.mem_range.1 hr)]
theorem log_add (ins : List (List (List α))) (i : Nat) (x : α) : logM (addM ins i x) = logM ins := by
  unfold logM
  rw [rnd_add]
  exact logUp_congr fun r hr => round_add ins i x hr
theorem logUp_succ (ins : List (List (List α))) (R : Nat) : logUp ins (R + 1) = logUp ins R ++ roundL ins R := by
  unfold logUp; rw [List.range_succ]; simp
theorem logUp_add (ins : List (List (List α))) (R k : Nat) : ∃ m, logUp ins (R + k) = logUp ins R ++ m := by
  induction k with
  | zero => exact ⟨[], by simp⟩
  | succ k ih =>
    obtain ⟨m, h⟩ := ih
    exact ⟨m ++ roundL ins (R + k), by rw [← Nat.add_assoc, logUp_succ, h, List.append_assoc]⟩
theorem logUp_le (ins : List (List (List α))) {R R' : Nat} (h : R ≤ R') : ∃ m, logUp ins R' = logUp ins R ++ m := by
  obtain ⟨k, rfl⟩ := Nat.le.dest h
  exact logUp_add ins R k
theorem round_close (ins : List (List (List α))) (i : Nat) {r : Nat} (h : r < rndM ins) : roundL (closeM ins i) r = roundL ins r := by
  unfold roundL
  rw [show (closeM ins i).map (fun b => (b[r]?).getD []) = ins.map (fun b => (b[r]?).getD []) from modify_map _ _ _ _ fun a ha => by
    have := rnd_le ins (List.mem_of_getElem? ha)
    rw [List.getElem?_append_left (by omega)]]
theorem mem_modify {β : Type} {g : β → β} {l : List β} {i : Nat} {b : β} (h : b ∈ l.modify i g) : b ∈ l ∨ ∃ a, l[i]? = some a ∧ b = g a := by
  obtain ⟨j, hj⟩ := List.mem_iff_getElem?.1 h
  rw [List.getElem?_modify] at hj
  cases e : l[j]? with
  | none => rw [e] at hj; simp at hj
  | some a =>
    rw [e] at hj
    by_cases hij : i = j
    · subst hij; simp at hj; exact .inr ⟨a, e, hj.symm⟩
    · simp [hij] at hj; subst hj; exact .inl (List.mem_of_getElem? e)
theorem rnd_close (ins : List (List (List α))) (i : Nat) : rndM ins ≤ rndM (closeM ins i) := rnd_ge _ (rnd_60 _) fun b hb => by
  rcases mem_modify hb with h | ⟨a, ha, rfl⟩
  · exact rnd_le ins h
  · have := rnd_le ins (List.mem_of_getElem? ha); simp; omega
/-- the log grows -/
theorem log_close (ins : List (List (List α))) (i : Nat) : ∃ m, logM (closeM ins i) = logM ins ++ m ∧ (rndM (closeM ins i) = rndM ins → m = []) := by
  obtain ⟨m, h⟩ := logUp_le (closeM ins i) (rnd_close ins i)
  have e : logUp (closeM ins i) (rndM ins) = logUp ins (rndM ins) := logUp_congr fun r hr => round_close ins i hr
  refine ⟨m, by unfold logM; rw [h, e], fun hr => ?_⟩
  rw [hr] at h
  have := congrArg List.length h
  rw [List.length_append] at this
  exact List.length_eq_zero_iff.1 (by omega)
end
section
variable {α β : Type}
/-- every entry turned -/
def mapM3 (f : α → β) (ins : List (List (List α))) : List (List (List β)) := ins.map fun b => b.map fun l => l.map f
theorem clo_map (f : α → β) (ins : List (List (List α))) : cloL (mapM3 f ins) = cloL ins := by simp [cloL, mapM3]
theorem rnd_map (f : α → β) (ins : List (List (List α))) : rndM (mapM3 f ins) = rndM ins := by unfold rndM; rw [clo_map]
theorem wait_map (f : α → β) (ins : List (List (List α))) : waitM (mapM3 f ins) = waitM ins := by
  unfold waitM; rw [clo_map, rnd_map]; simp [mapM3]
theorem round_map (f : α → β) (ins : List (List (List α))) (r : Nat) : roundL (mapM3 f ins) r = (roundL ins r).map f := by
  unfold roundL mapM3
  rw [List.map_map, List.map_flatten, List.map_map]
  congr 1
  refine List.map_congr_left fun b _ => ?_
  simp only [Function.comp_apply, List.getElem?_map]
  cases b[r]? <;> rfl
theorem logUp_map (f : α → β) (ins : List (List (List α))) (R : Nat) : logUp (mapM3 f ins) R = (logUp ins R).map f := by
  unfold logUp
  rw [List.map_flatten, List.map_map]
  congr 1
  exact List.map_congr_left fun r _ => round_map f ins r
theorem log_map (f : α → β) (ins : List (List (List α))) : logM (mapM3 f ins) = (logM ins).map f := by
  unfold logM; rw [rnd_map, logUp_map]
end
end Go.Proofs.YtefdipjhjgmokaaGreat

set_option linter.unusedVariables false
set_option linter.unusedSimpArgs false
namespace Go.Proofs.YtefdipjhjgmokaaGreat
open Go.RowKit

/-- only blocks of a set, and new ones, have changed -/
structure Fr (F : Nat → Prop) (w w' : World) : Prop where
  os : w'.os = w.os
  tape : w'.tape = w.tape
  output : w'.output = w.output
  size : w.heap.size ≤ w'.heap.size
  block : ∀ k, k < w.heap.size → ¬ F k → w'.heap[k]? = w.heap[k]?
section
variable {F F' : Nat → Prop} {w w1 w' a : World} {B : Nat}
theorem Fr.refl (F : Nat → Prop) (w : World) : Fr F w w := ⟨rfl, rfl, rfl, Nat.le_refl _, fun _ _ _ => rfl⟩
theorem Fr.of_below (h : Below w.heap.size w w') : Fr F w w' := ⟨h.os, h.tape, h.output, h.size, fun k hk _ => h.block k hk⟩
theorem Fr.of_grown {r : Option Nat} (h : w.grownBy w' r) (hr : ∀ k, r = some k → F k) : Fr F w w' := ⟨h.os, h.tape, h.output, h.size, fun k hk hF => h.block k hk fun e => hF (hr k e.symm)⟩
theorem Fr.of_set (g i : Nat) (v : Value) (hF : F g) : Fr F w (w.setCell ⟨g, i, none⟩ v) := Fr.of_grown (grown_set w g i v) fun k e => by injection e with e; subst e; exact hF
theorem Fr.trans (h : Fr F w w1) (h2 : Fr F' w1 w') (hF : ∀ k, F' k → F k ∨ w.heap.size ≤ k) : Fr F w w' :=
  ⟨h2.os.trans h.os, h2.tape.trans h.tape, h2.output.trans h.output, Nat.le_trans h.size h2.size, fun k hk hn => (h2.block k (Nat.lt_of_lt_of_le hk h.size) fun e => (hF k e).elim hn fun e2 => absurd hk (Nat.not_lt.2 e2)).trans (h.block k hk hn)⟩
theorem Fr.comp (h : Fr F w w1) (h2 : Fr F w1 w') : Fr F w w' := h.trans h2 fun _ e => .inl e
theorem Fr.below (h : Fr F w w') (hF : ∀ k, F k → B ≤ k) (hB : B ≤ w.heap.size) (hb : Below B a w) : Below B a w' :=
  ⟨h.os.trans hb.os, h.tape.trans hb.tape, h.output.trans hb.output, Nat.le_trans hb.size h.size, fun k hk => (h.block k (Nat.lt_of_lt_of_le hk hB) fun e => absurd hk (Nat.not_lt.2 (hF k e))).trans (hb.block k hk)⟩
theorem Fr.own {t : TypeId} {s : Nat} {v : Value} {n : Nat} {xs : List Value} (hf : Fr F w w') (h : w.ownsRow B t s v n xs) (hn : ∀ k, v.ownBlock = some k → ¬ F k) : w'.ownsRow B t s v n xs :=
  ⟨h.1, h.2.imp id fun ⟨g, cap, cur, h1, h2, h3, h4⟩ => ⟨g, cap, cur, h1, h2, (hf.block g (Array.getElem?_eq_some_iff.1 h3).1 (hn g (by rw [h1]; rfl))).trans h3, h4⟩⟩
/-- no block of the set is of a type -/
def Off (F : Nat → Prop) (w : World) (t : TypeId) : Prop := ∀ k, F k → k < w.heap.size → ∃ u, Ty w k u ∧ t ≠ u
theorem Fr.own_ty {t : TypeId} {s : Nat} {v : Value} {n : Nat} {xs : List Value} (hf : Fr F w w') (h : w.ownsRow B t s v n xs) (ho : Off F w t) : w'.ownsRow B t s v n xs :=
  hf.own h fun k hk hF => by
    obtain ⟨u, h1, h2⟩ := ho k hF (World.ownsRow.lt h k hk).2
    exact h2 ((Go.Proofs.YtefdipjhjgmokaaGreat.own_ty h hk).inj h1)
theorem Fr.box {g : Nat} {t : TypeId} {cs : Array Value} (hf : Fr F w w') (h : Box w g t cs) (hn : ¬ F g) : Box w' g t cs := h.keep (hf.block g h.lt hn)
theorem Fr.box_ty {g : Nat} {t : TypeId} {cs : Array Value} (hf : Fr F w w') (h : Box w g t cs) (ho : Off F w t) : Box w' g t cs := hf.box h fun hF => by
  obtain ⟨u, h1, h2⟩ := ho g hF h.lt
  exact h2 (h.ty.inj h1)
end
end Go.Proofs.YtefdipjhjgmokaaGreat
