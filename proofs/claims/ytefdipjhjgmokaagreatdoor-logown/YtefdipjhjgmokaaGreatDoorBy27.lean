/-
  What rokeep.Map makes, plainly (no program in it).
  rokeep.Within.
  A load may be taken first where nobody writes its cell before it: what is held of the world is owed only while a given later operation has not come up (no program in it).
-/
import Derived.Test.YtefdipjhjgmokaaGreatDoorBy1
import Derived.Test.YtefdipjhjgmokaaGreatDoorBy26
import Derived.Test.YtefdipjhjgmokaaGreatDoorProg
import Derived.WalkKit
import Derived.WalkSpells
import Derived.WalkLawsBesides
import Derived.OrdersHeld
set_option linter.unusedVariables false
set_option linter.unusedSimpArgs false
namespace Go.Proofs.YtefdipjhjgmokaaGreatDoor

def cutsL : List ByteArray := [⟨#[97]⟩, ⟨#[98]⟩, ⟨#[98, 98]⟩, ⟨#[100]⟩, ⟨#[109]⟩, ⟨#[112]⟩]
theorem cutsL_ok : cutsB ByteArray.empty cutsL = true := by decide +kernel
/-- the i-th cut is taken -/
def mpT (zs : List Int) (i : Nat) : Bool := decide (i < zs.length) && decide (0 < wi (zs.getD i 0) 3)
/-- the map of the first i cuts -/
def mapR (zs : List Int) : Nat → List ByteArray × List Nat
  | 0 => ([], [0])
  | i + 1 => if mpT zs i = true then ((mapR zs i).1 ++ [cutsL.getD i ByteArray.empty], (mapR zs i).2 ++ [wi ((zs.getD i 0).tdiv 3) 4]) else mapR zs i
theorem mapR_len (zs : List Int) (i : Nat) : (mapR zs i).2.length = (mapR zs i).1.length + 1 := by
  induction i with
  | zero => rfl
  | succ i ih => simp only [mapR]; split <;> simp [ih]
theorem mapR_few (zs : List Int) (i : Nat) : (mapR zs i).1.length ≤ i := by
  induction i with
  | zero => simp [mapR]
  | succ i ih =>
    simp only [mapR]
    split
    · rw [List.length_append, List.length_singleton]; omega
    · omega
theorem mapR_sub (zs : List Int) {i : Nat} (hi : i ≤ 6) : (mapR zs i).1.Sublist (cutsL.take i) := by
  induction i with
  | zero => simp [mapR]
  | succ i ih =>
    have hl : i < cutsL.length := by simp [cutsL]; omega
    have e : cutsL.take (i + 1) = cutsL.take i ++ [cutsL.getD i ByteArray.empty] := by
      rw [List.take_succ_eq_append_getElem hl]; simp [List.getD_eq_getElem?_getD, hl]
    rw [e]
    simp only [mapR]
    split
    · exact (ih (by omega)).append (List.Sublist.refl _)
    · exact (ih (by omega)).trans (List.sublist_append_left _ _)
theorem mapR_own (zs : List Int) (i : Nat) : ∀ n ∈ (mapR zs i).2, n ≤ 3 := by
  induction i with
  | zero => intro n hn; simp [mapR] at hn; omega
  | succ i ih =>
    simp only [mapR]
    split
    · intro n hn
      rcases List.mem_append.1 hn with hn | hn
      · exact ih n hn
      · rw [List.mem_singleton.1 hn]
        have := wi_lt ((zs.getD i 0).tdiv 3) 4 (by decide)
        omega
    · exact ih
theorem mapR_ok (zs : List Int) : OkM (mapR zs 6).1 ((mapR zs 6).2.map fun (k : Nat) => (k : Int)) := by
  have hs := mapR_sub zs (i := 6) (by decide)
  obtain ⟨h1, h2⟩ := cutsB_iff.1 cutsL_ok
  have ht : cutsL.take 6 = cutsL := rfl
  rw [ht] at hs
  refine ⟨by have := mapR_few zs 6; omega, by rw [List.length_map, mapR_len], cutsB_iff.2 ⟨fun k hk => h1 k (hs.subset hk), h2.sublist hs⟩, fun n hn => ?_⟩
  obtain ⟨k, hk, rfl⟩ := List.mem_map.1 hn
  have := mapR_own zs 6 k hk
  omega
end Go.Proofs.YtefdipjhjgmokaaGreatDoor

set_option linter.unusedVariables false
set_option linter.unusedSimpArgs false
namespace Go.Proofs.YtefdipjhjgmokaaGreatDoor
open Go.RowKit

set_option maxHeartbeats 400000 in
theorem within_any (k : Int) (n : Nat) (h1 : 1 ≤ n) (h2 : n ≤ 1000000) (w : World) :
    Calls Tryz.prog 17 #[.int .i64 k, .int .i64 n] w fun e w' => e = .returned (.int .i64 (wi k n)) ∧ w = w' := by
  go_enter Tryz.func17, Tryz.ntmps17
  go_wp2
  go_ret
  exact ⟨ret_int (wi_eq k n h1 h2), rfl⟩
end Go.Proofs.YtefdipjhjgmokaaGreatDoor

set_option linter.unusedVariables false
set_option linter.unusedSimpArgs false
namespace Go.Proofs.YtefdipjhjgmokaaGreatDoor
open Go

theorem tf_no {b : Bool} {R : Prop} (h1 : b = true) (h2 : b = false) : R := by rw [h1] at h2; cases h2
section
variable {P : Program} {ops : Array Oper} {Q : Exit → Act → World → Prop} {md : Region.Mode} {S : World → Prop} {p : Nat}

/-- whatever order is picked from here on, and S holds behind every operation that is carried out while p has not come up -/
def anyG (P : Program) (md : Region.Mode) (ops : Array Oper) (Q : Exit → Act → World → Prop) (S : World → Prop) (p : Nat) : Nat → Array Bool → Act → World → Prop
  | 0, listed, a, w => Region.ready md ops listed = [] ∧ Q .normal a w
  | fuel + 1, listed, a, w =>
    (Region.ready md ops listed = [] → Q .normal a w) ∧
    ∀ i ∈ Region.ready md ops listed, wpOp P ops Q i (fun a' w' => ((listed.setIfInBounds i true).getD p true = false → S w') ∧ anyG P md ops Q S p fuel (listed.setIfInBounds i true) a' w') a w
theorem any_of_G : ∀ (fuel : Nat) (listed : Array Bool) (a : Act) (w : World), anyG P md ops Q S p fuel listed a w → wpAny P md ops Q fuel listed a w
  | 0, _, _, _, h => h
  | fuel + 1, _, _, _, h => ⟨h.1, fun i hi => wpOp_mono (fun a' w' h' => any_of_G fuel _ a' w' h'.2) (h.2 i hi)⟩
theorem ready_not {i j : Nat} {oj : Oper} {listed : Array Bool} (hr : i ∈ Region.ready md ops listed) (hj : j ∈ Region.ready md ops listed) (hoj : ops[j]? = some oj) : ∀ e ∈ oj.after, Region.binds md e = true → e.on ≠ i := fun e he hb heq => by
  obtain ⟨_, oj', hoj', hall⟩ := mem_ready.1 hj
  rw [hoj] at hoj'
  injection hoj' with hoj'
  subst hoj'
  have h1 := hall e he hb
  have h0 := (mem_ready.1 hr).1
  rw [heq] at h1
  rcases Nat.lt_or_ge i listed.size with h' | h'
  · simp [h'] at h0 h1; rw [h0] at h1; cases h1
  · simp [Array.getElem?_eq_none h'] at h1
theorem free_next {i j : Nat} {oi : Oper} {listed : Array Bool} (hjun : listed.getD j true = false)
    (hfree : ∀ k ok, ops[k]? = some ok → k ≠ i → listed.getD k true = false → (∀ e ∈ ok.after, Region.binds md e = true → e.on ≠ i) → oi.apart ops ok = true) :
    ∀ k ok, ops[k]? = some ok → k ≠ i → (listed.setIfInBounds j true).getD k true = false → (∀ e ∈ ok.after, Region.binds md e = true → e.on ≠ i) → oi.apart ops ok = true := fun k ok hk hki hun hno => by
  refine hfree k ok hk hki ?_ hno
  by_cases hjk : j = k
  · subst hjk; exact hjun
  · rw [getD_set_ne true hjk] at hun; exact hun
/-- an operation that yields in every world that meets S, and for which p waits, may be taken first while p has not come up -/
theorem anyG_first {i : Nat} {oi op : Oper} {v : Value} (hi : ops[i]? = some oi) (hop : ops[p]? = some op) (hpw : op.after.any (fun e => Region.binds md e && e.on == i) = true)
    (hsel : ∀ (j : Nat) (o : Oper) cs b, ops[j]? = some o → o.op ≠ .select cs b) (hQ : ∀ c a w, Q (.panic c) (a.put oi.dst v) w → Q (.panic c) a w) :
    ∀ (fuel : Nat) (listed : Array Bool) (a : Act) (w : World),
      (∀ j oj, ops[j]? = some oj → j ≠ i → listed.getD j true = false → (∀ e ∈ oj.after, Region.binds md e = true → e.on ≠ i) → oi.apart ops oj = true) →
      i ∈ Region.ready md ops listed → YieldsIf P ops S oi v a → listed.getD p true = false → S w →
      anyG P md ops Q S p fuel (listed.setIfInBounds i true) (a.put oi.dst v) w → anyG P md ops Q S p (fuel + 1) listed a w := by
  obtain ⟨e0, he0, hb0⟩ := Array.any_eq_true'.1 hpw
  simp only [Bool.and_eq_true, beq_iff_eq] at hb0
  have hnp : ∀ {listed : Array Bool} {j : Nat}, i ∈ Region.ready md ops listed → j ∈ Region.ready md ops listed → j ≠ p := fun hr hj e => by
    subst e
    exact ready_not hr hj hop e0 he0 hb0.1 hb0.2
  intro fuel
  induction fuel with
  | zero =>
    intro listed a w _ hr hy hp hS H
    refine ⟨fun h => (by rw [h] at hr; cases hr), fun j hj => ?_⟩
    by_cases hji : j = i
    · subst hji; exact hy.wpOp hi hS ⟨fun _ => hS, H⟩
    · have := ready_mono hj hji
      rw [H.1] at this
      cases this
  | succ fuel ih =>
    intro listed a w hfree hr hy hp hS H
    refine ⟨fun h => (by rw [h] at hr; cases hr), fun j hj => ?_⟩
    by_cases hji : j = i
    · subst hji; exact hy.wpOp hi hS ⟨fun _ => hS, H⟩
    · have h1 := H.2 j (ready_mono hj hji)
      obtain ⟨hjun, oj, hoj, hall⟩ := mem_ready.1 hj
      have hnot := ready_not hr hj hoj
      have h2 := wpOp_putIf hoj (hfree j oj hoj hji hjun hnot) (fun cs b => hsel i oi cs b hi) (fun cs b => hsel j oj cs b hoj) hQ hy h1
      have hpi : p ≠ i := fun e => hnp hr hr e.symm
      have hpj : j ≠ p := hnp hr hj
      have hpl : (listed.setIfInBounds j true).getD p true = false := by rw [getD_set_ne true hpj]; exact hp
      refine wpOp_mono (fun a' w' h3 => ?_) h2
      have hS' : S w' := h3.2.1 (by rw [getD_set_ne true hpj, getD_set_ne true (Ne.symm hpi)]; exact hp)
      refine ⟨fun _ => hS', ih (listed.setIfInBounds j true) a' w' (free_next hjun hfree) (ready_mono hr (Ne.symm hji)) h3.1 hpl hS' ?_⟩
      rw [Array.setIfInBounds_comm _ _ hji]
      exact h3.2.2
/-- one that yields in whatever world may always be taken first -/
theorem anyG_free {i : Nat} {oi : Oper} {v : Value} (hi : ops[i]? = some oi) (hpi : p ≠ i)
    (hsel : ∀ (j : Nat) (o : Oper) cs b, ops[j]? = some o → o.op ≠ .select cs b) (hQ : ∀ c a w, Q (.panic c) (a.put oi.dst v) w → Q (.panic c) a w) :
    ∀ (fuel : Nat) (listed : Array Bool) (a : Act) (w : World),
      (∀ j oj, ops[j]? = some oj → j ≠ i → listed.getD j true = false → (∀ e ∈ oj.after, Region.binds md e = true → e.on ≠ i) → oi.apart ops oj = true) →
      i ∈ Region.ready md ops listed → Yields P ops oi v a → (listed.getD p true = false → S w) →
      anyG P md ops Q S p fuel (listed.setIfInBounds i true) (a.put oi.dst v) w → anyG P md ops Q S p (fuel + 1) listed a w := by
  have hset : ∀ {listed : Array Bool}, (listed.setIfInBounds i true).getD p true = false → listed.getD p true = false := fun h => by rw [getD_set_ne true (Ne.symm hpi)] at h; exact h
  intro fuel
  induction fuel with
  | zero =>
    intro listed a w _ hr hy hS H
    refine ⟨fun h => (by rw [h] at hr; cases hr), fun j hj => ?_⟩
    by_cases hji : j = i
    · subst hji; exact hy.wpOp hi ⟨fun h => hS (hset h), H⟩
    · have := ready_mono hj hji
      rw [H.1] at this
      cases this
  | succ fuel ih =>
    intro listed a w hfree hr hy hS H
    refine ⟨fun h => (by rw [h] at hr; cases hr), fun j hj => ?_⟩
    by_cases hji : j = i
    · subst hji; exact hy.wpOp hi ⟨fun h => hS (hset h), H⟩
    · have h1 := H.2 j (ready_mono hj hji)
      obtain ⟨hjun, oj, hoj, hall⟩ := mem_ready.1 hj
      have h2 := wpOp_put hoj (hfree j oj hoj hji hjun (ready_not hr hj hoj)) (fun cs b => hsel i oi cs b hi) (fun cs b => hsel j oj cs b hoj) hQ hy h1
      refine wpOp_mono (fun a' w' h3 => ?_) h2
      have hS' : (listed.setIfInBounds j true).getD p true = false → S w' := fun h => h3.2.1 (by rw [Array.setIfInBounds_comm _ _ (Ne.symm hji), getD_set_ne true (Ne.symm hpi)]; exact h)
      refine ⟨hS', ih (listed.setIfInBounds j true) a' w' (free_next hjun hfree) (ready_mono hr (Ne.symm hji)) h3.1 hS' ?_⟩
      rw [Array.setIfInBounds_comm _ _ hji]
      exact h3.2.2
/-- the same where p waits for it through others: B holds p and waits, each for it or for one of B -/
theorem anyG_firstB {i : Nat} {oi : Oper} {v : Value} {B : List Nat} (hi : ops[i]? = some oi) (hpB : p ∈ B)
    (hB : ∀ k ∈ B, ∃ ok, ops[k]? = some ok ∧ ∃ e ∈ ok.after, Region.binds md e = true ∧ (e.on = i ∨ e.on ∈ B))
    (hsel : ∀ (j : Nat) (o : Oper) cs b, ops[j]? = some o → o.op ≠ .select cs b) (hQ : ∀ c a w, Q (.panic c) (a.put oi.dst v) w → Q (.panic c) a w) :
    ∀ (fuel : Nat) (listed : Array Bool) (a : Act) (w : World),
      (∀ j oj, ops[j]? = some oj → j ≠ i → listed.getD j true = false → (∀ e ∈ oj.after, Region.binds md e = true → e.on ≠ i) → oi.apart ops oj = true) →
      i ∈ Region.ready md ops listed → YieldsIf P ops S oi v a → (∀ k ∈ B, listed.getD k true = false) → S w →
      anyG P md ops Q S p fuel (listed.setIfInBounds i true) (a.put oi.dst v) w → anyG P md ops Q S p (fuel + 1) listed a w := by
  have hnB : ∀ {listed : Array Bool} {j : Nat}, i ∈ Region.ready md ops listed → (∀ k ∈ B, listed.getD k true = false) → j ∈ Region.ready md ops listed → j ∉ B := fun {listed} {j} hr hu hj hm => by
    obtain ⟨ok, hok, e, he, hb, hon⟩ := hB j hm
    obtain ⟨_, oj, hoj, hall⟩ := mem_ready.1 hj
    rw [hok] at hoj
    injection hoj with hoj
    subst hoj
    have h1 := hall e he hb
    have h0 : listed.getD e.on true = false := by
      rcases hon with hon | hon
      · rw [hon]; exact (mem_ready.1 hr).1
      · exact hu _ hon
    rcases Nat.lt_or_ge e.on listed.size with h' | h'
    · simp [h'] at h0 h1; rw [h0] at h1; cases h1
    · simp [Array.getElem?_eq_none h'] at h1
  intro fuel
  induction fuel with
  | zero =>
    intro listed a w _ hr hy hu hS H
    refine ⟨fun h => (by rw [h] at hr; cases hr), fun j hj => ?_⟩
    by_cases hji : j = i
    · subst hji; exact hy.wpOp hi hS ⟨fun _ => hS, H⟩
    · have := ready_mono hj hji
      rw [H.1] at this
      cases this
  | succ fuel ih =>
    intro listed a w hfree hr hy hu hS H
    refine ⟨fun h => (by rw [h] at hr; cases hr), fun j hj => ?_⟩
    by_cases hji : j = i
    · subst hji; exact hy.wpOp hi hS ⟨fun _ => hS, H⟩
    · have h1 := H.2 j (ready_mono hj hji)
      obtain ⟨hjun, oj, hoj, hall⟩ := mem_ready.1 hj
      have h2 := wpOp_putIf hoj (hfree j oj hoj hji hjun (ready_not hr hj hoj)) (fun cs b => hsel i oi cs b hi) (fun cs b => hsel j oj cs b hoj) hQ hy h1
      have hjB := hnB hr hu hj
      have hiB := hnB hr hu hr
      have hpi : i ≠ p := fun e => hiB (by rw [e]; exact hpB)
      have hpj : j ≠ p := fun e => hjB (by rw [e]; exact hpB)
      have hu' : ∀ k ∈ B, (listed.setIfInBounds j true).getD k true = false := fun k hk => by
        have hjk : j ≠ k := fun e => hjB (by rw [e]; exact hk)
        rw [getD_set_ne true hjk]; exact hu k hk
      refine wpOp_mono (fun a' w' h3 => ?_) h2
      have hS' : S w' := h3.2.1 (by rw [getD_set_ne true hpj, getD_set_ne true hpi]; exact hu p hpB)
      refine ⟨fun _ => hS', ih (listed.setIfInBounds j true) a' w' (free_next hjun hfree) (ready_mono hr (Ne.symm hji)) h3.1 hu' hS' ?_⟩
      rw [Array.setIfInBounds_comm _ _ hji]
      exact h3.2.2
/-- does each of B wait for i or for one of B? -/
def waitsB (md : Region.Mode) (ops : Array Oper) (B : List Nat) (i : Nat) : Bool := B.all fun k => match ops[k]? with
  | some ok => ok.after.any fun e => Region.binds md e && (e.on == i || B.contains e.on)
  | none => false
theorem anyG_loadB {i : Nat} {oi : Oper} {v : Value} {fuel : Nat} {listed : Array Bool} {a : Act} {w : World} (B : List Nat) (hi : ops[i]? = some oi) (hpB : B.contains p = true) (hw : waitsB md ops B i = true) (hu : (B.all fun k => !listed.getD k true) = true)
    (hs : Region.noSelect ops = true) (hf : Region.free md ops listed i = true) (hr : (Region.ready md ops listed).contains i = true) (hQ : ∀ c a w, Q (.panic c) (a.put oi.dst v) w → Q (.panic c) a w)
    (hS : S w) (hy : YieldsIf P ops S oi v a) (h : anyG P md ops Q S p fuel (listed.setIfInBounds i true) (a.put oi.dst v) w) : anyG P md ops Q S p (fuel + 1) listed a w := by
  refine anyG_firstB hi (by simpa using hpB) (fun k hk => ?_) (Region.noSelect_spec hs) hQ fuel listed a w (Region.free_spec hi hf) (by simpa using hr) hy (fun k hk => ?_) hS h
  · have h1 := List.all_eq_true.1 hw k hk
    cases e : ops[k]? with
    | none => rw [e] at h1; cases h1
    | some ok =>
      rw [e] at h1
      obtain ⟨x, hx, hb⟩ := Array.any_eq_true'.1 h1
      simp only [Bool.and_eq_true, Bool.or_eq_true, beq_iff_eq, List.contains_iff_mem] at hb
      exact ⟨ok, rfl, x, hx, hb.1, hb.2⟩
  · have h1 := List.all_eq_true.1 hu k hk
    simpa using h1
theorem anyG_load {i : Nat} {oi op : Oper} {v : Value} {fuel : Nat} {listed : Array Bool} {a : Act} {w : World} (hi : ops[i]? = some oi) (hop : ops[p]? = some op) (hpw : op.after.any (fun e => Region.binds md e && e.on == i) = true)
    (hs : Region.noSelect ops = true) (hf : Region.free md ops listed i = true) (hr : (Region.ready md ops listed).contains i = true) (hQ : ∀ c a w, Q (.panic c) (a.put oi.dst v) w → Q (.panic c) a w)
    (hp : listed.getD p true = false) (hS : S w) (hy : YieldsIf P ops S oi v a) (h : anyG P md ops Q S p fuel (listed.setIfInBounds i true) (a.put oi.dst v) w) : anyG P md ops Q S p (fuel + 1) listed a w :=
  anyG_first hi hop hpw (Region.noSelect_spec hs) hQ fuel listed a w (Region.free_spec hi hf) (by simpa using hr) hy hp hS h
theorem anyG_move {i : Nat} {oi : Oper} {v : Value} {fuel : Nat} {listed : Array Bool} {a : Act} {w : World} (hi : ops[i]? = some oi) (hpi : p ≠ i)
    (hs : Region.noSelect ops = true) (hf : Region.free md ops listed i = true) (hr : (Region.ready md ops listed).contains i = true) (hQ : ∀ c a w, Q (.panic c) (a.put oi.dst v) w → Q (.panic c) a w)
    (hS : listed.getD p true = false → S w) (hy : Yields P ops oi v a) (h : anyG P md ops Q S p fuel (listed.setIfInBounds i true) (a.put oi.dst v) w) : anyG P md ops Q S p (fuel + 1) listed a w :=
  anyG_free hi hpi (Region.noSelect_spec hs) hQ fuel listed a w (Region.free_spec hi hf) (by simpa using hr) hy hS h
theorem anyG_all {rs : List Nat} {fuel : Nat} {listed : Array Bool} {a : Act} {w : World} (hr : Region.ready md ops listed = rs) (hne : rs ≠ [])
    (h : ∀ i ∈ rs, wpOp P ops Q i (fun a' w' => ((listed.setIfInBounds i true).getD p true = false → S w') ∧ anyG P md ops Q S p fuel (listed.setIfInBounds i true) a' w') a w) : anyG P md ops Q S p (fuel + 1) listed a w :=
  ⟨fun h0 => absurd (hr ▸ h0) hne, hr ▸ h⟩
theorem anyG_one {i : Nat} {o : Oper} {fuel : Nat} {listed : Array Bool} {a : Act} {w : World} (hr : Region.ready md ops listed = [i]) (hi : ops[i]? = some o) (hg : o.guard = none)
    (h : ∀ K' : Act → World → Prop, (∀ a' w', ((listed.setIfInBounds i true).getD p true = false → S w') → anyG P md ops Q S p fuel (listed.setIfInBounds i true) a' w' → K' a' w') → Oper.wp P o a w K' Q) : anyG P md ops Q S p (fuel + 1) listed a w := by
  refine anyG_all hr (by simp) fun j hj => ?_
  rw [List.mem_singleton.1 hj]
  have hw : Region.wanted o (yielded ops a.tmps) = true := by simp [Region.wanted, hg]
  unfold wpOp
  simp only [hi, hw, if_true]
  exact .inl (h _ fun a' w' h1 h2 => ⟨h1, h2⟩)
theorem anyG_two {i j : Nat} {o q : Oper} {fuel : Nat} {listed : Array Bool} {a : Act} {w : World} (hr : Region.ready md ops listed = [i, j]) (hi : ops[i]? = some o) (hg : o.guard = none) (hj : ops[j]? = some q) (hgq : q.guard = none)
    (h1 : ∀ K' : Act → World → Prop, (∀ a' w', ((listed.setIfInBounds i true).getD p true = false → S w') → anyG P md ops Q S p fuel (listed.setIfInBounds i true) a' w' → K' a' w') → Oper.wp P o a w K' Q)
    (h2 : ∀ K' : Act → World → Prop, (∀ a' w', ((listed.setIfInBounds j true).getD p true = false → S w') → anyG P md ops Q S p fuel (listed.setIfInBounds j true) a' w' → K' a' w') → Oper.wp P q a w K' Q) : anyG P md ops Q S p (fuel + 1) listed a w := by
  refine anyG_all hr (by simp) fun k hk => ?_
  have hw : ∀ {o : Oper}, o.guard = none → Region.wanted o (yielded ops a.tmps) = true := fun hg => by simp [Region.wanted, hg]
  rcases List.mem_cons.1 hk with rfl | hk
  · unfold wpOp
    simp only [hi, hw hg, if_true]
    exact .inl (h1 _ fun a' w' h1 h2 => ⟨h1, h2⟩)
  · rw [List.mem_singleton.1 hk]
    unfold wpOp
    simp only [hj, hw hgq, if_true]
    exact .inl (h2 _ fun a' w' h1 h2 => ⟨h1, h2⟩)
theorem anyG_done {listed : Array Bool} {a : Act} {w : World} (hr : Region.ready md ops listed = []) (h : Q .normal a w) : ∀ fuel, anyG P md ops Q S p fuel listed a w
  | 0 => ⟨hr, h⟩
  | _ + 1 => ⟨fun _ => h, by rw [hr]; simp⟩
end
end Go.Proofs.YtefdipjhjgmokaaGreatDoor
