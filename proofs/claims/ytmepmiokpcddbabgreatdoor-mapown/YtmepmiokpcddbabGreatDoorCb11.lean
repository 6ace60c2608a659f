/-
  A load may be taken first where nobody writes its cell before it: what is held of the world is owed only while a given later operation has not come up (no program in it).
  shard.Plain.
-/
import Derived.OrdersHeld
import Derived.WalkKit
import Derived.Test.YtmepmiokpcddbabGreatDoorCb10
import Derived.Deep.RegionLaw
set_option linter.unusedVariables false
set_option linter.unusedSimpArgs false
namespace Go.Proofs.YtmepmiokpcddbabGreatDoor
open Go

theorem tf_no {b : Bool} {R : Prop} (h1 : b = true) (h2 : b = false) : R := by rw [h1] at h2; cases h2
section
variable {P : Program} {ops : Array Oper} {Q : Exit → Act → World → Prop} {md : Region.Mode} {S : World → Prop} {p : Nat}

/-- whatever order is picked from here on, and S holds behind every operation that is carried out while p has not come up -/
def anyG (P : Program) (md : Region.Mode) (ops : Array Oper) (Q : Exit → Act → World → Prop) (S : World → Prop) (p : Nat) : Nat → Array Bool → Act → World → Prop
  | 0, listed, a, w => Region.ready md ops listed = [] ∧ Q .normal a w
  | fuel + 1, listed, a, w =>
    (Region.ready md ops listed = [] → Q .normal a w) ∧
    ∀ i ∈ Region.ready md ops listed, wpOp P ops Q i (fun a' w' => ((listed.setIfInBounds i true).getD p true = false → S w') ∧ anyG P md ops Q S p fuel (listed.setIfInBounds i true) a' w') a w
theorem any_of_G : ∀ (fuel : Nat) (listed : Array Bool) (a : Act) (w : World), anyG P md ops Q S p fuel listed a w → wpAny P md ops Q fuel listed a w
  | 0, _, _, _, h => h
  | fuel + 1, _, _, _, h => ⟨h.1, fun i hi => wpOp_mono (fun a' w' h' => any_of_G fuel _ a' w' h'.2) (h.2 i hi)⟩
theorem ready_not {i j : Nat} {oj : Oper} {listed : Array Bool} (hr : i ∈ Region.ready md ops listed) (hj : j ∈ Region.ready md ops listed) (hoj : ops[j]? = some oj) : ∀ e ∈ oj.after, Region.binds md e = true → e.on ≠ i := fun e he hb heq => by
  obtain ⟨_, oj', hoj', hall⟩ := mem_ready.1 hj
  rw [hoj] at hoj'
  injection hoj' with hoj'
  subst hoj'
  have h1 := hall e he hb
  have h0 := (mem_ready.1 hr).1
  rw [heq] at h1
  rcases Nat.lt_or_ge i listed.size with h' | h'
  · simp [h'] at h0 h1; rw [h0] at h1; cases h1
  · simp [Array.getElem?_eq_none h'] at h1
theorem free_next {i j : Nat} {oi : Oper} {listed : Array Bool} (hjun : listed.getD j true = false)
    (hfree : ∀ k ok, ops[k]? = some ok → k ≠ i → listed.getD k true = false → (∀ e ∈ ok.after, Region.binds md e = true → e.on ≠ i) → oi.apart ops ok = true) :
    ∀ k ok, ops[k]? = some ok → k ≠ i → (listed.setIfInBounds j true).getD k true = false → (∀ e ∈ ok.after, Region.binds md e = true → e.on ≠ i) → oi.apart ops ok = true := fun k ok hk hki hun hno => by
  refine hfree k ok hk hki ?_ hno
  by_cases hjk : j = k
  · subst hjk; exact hjun
  · rw [getD_set_ne true hjk] at hun; exact hun
/-- an operation that yields in every world that meets S, and for which p waits, may be taken first while p has not come up -/
theorem anyG_first {i : Nat} {oi op : Oper} {v : Value} (hi : ops[i]? = some oi) (hop : ops[p]? = some op) (hpw : op.after.any (fun e => Region.binds md e && e.on == i) = true)
    (hsel : ∀ (j : Nat) (o : Oper) cs b, ops[j]? = some o → o.op ≠ .select cs b) (hQ : ∀ c a w, Q (.panic c) (a.put oi.dst v) w → Q (.panic c) a w) :
    ∀ (fuel : Nat) (listed : Array Bool) (a : Act) (w : World),
      (∀ j oj, ops[j]? = some oj → j ≠ i → listed.getD j true = false → (∀ e ∈ oj.after, Region.binds md e = true → e.on ≠ i) → oi.apart ops oj = true) →
      i ∈ Region.ready md ops listed → YieldsIf P ops S oi v a → listed.getD p true = false → S w →
      anyG P md ops Q S p fuel (listed.setIfInBounds i true) (a.put oi.dst v) w → anyG P md ops Q S p (fuel + 1) listed a w := by
  obtain ⟨e0, he0, hb0⟩ := Array.any_eq_true'.1 hpw
  simp only [Bool.and_eq_true, beq_iff_eq] at hb0
  have hnp : ∀ {listed : Array Bool} {j : Nat}, i ∈ Region.ready md ops listed → j ∈ Region.ready md ops listed → j ≠ p := fun hr hj e => by
    subst e
    exact ready_not hr hj hop e0 he0 hb0.1 hb0.2
  intro fuel
  induction fuel with
  | zero =>
    intro listed a w _ hr hy hp hS H
    refine ⟨fun h => (by rw [h] at hr; cases hr), fun j hj => ?_⟩
    by_cases hji : j = i
    · subst hji; exact hy.wpOp hi hS ⟨fun _ => hS, H⟩
    · have := ready_mono hj hji
      rw [H.1] at this
      cases this
  | succ fuel ih =>
    intro listed a w hfree hr hy hp hS H
    refine ⟨fun h => (by rw [h] at hr; cases hr), fun j hj => ?_⟩
    by_cases hji : j = i
    · subst hji; exact hy.wpOp hi hS ⟨fun _ => hS, H⟩
    · have h1 := H.2 j (ready_mono hj hji)
      obtain ⟨hjun, oj, hoj, hall⟩ := mem_ready.1 hj
      have hnot := ready_not hr hj hoj
      have h2 := wpOp_putIf hoj (hfree j oj hoj hji hjun hnot) (fun cs b => hsel i oi cs b hi) (fun cs b => hsel j oj cs b hoj) hQ hy h1
      have hpi : p ≠ i := fun e => hnp hr hr e.symm
      have hpj : j ≠ p := hnp hr hj
      have hpl : (listed.setIfInBounds j true).getD p true = false := by rw [getD_set_ne true hpj]; exact hp
      refine wpOp_mono (fun a' w' h3 => ?_) h2
      have hS' : S w' := h3.2.1 (by rw [getD_set_ne true hpj, getD_set_ne true (Ne.symm hpi)]; exact hp)
      refine ⟨fun _ => hS', ih (listed.setIfInBounds j true) a' w' (free_next hjun hfree) (ready_mono hr (Ne.symm hji)) h3.1 hpl hS' ?_⟩
      rw [Array.setIfInBounds_comm _ _ hji]
      exact h3.2.2
/-- one that yields in whatever world may always be taken first -/
theorem anyG_free {i : Nat} {oi : Oper} {v : Value} (hi : ops[i]? = some oi) (hpi : p ≠ i)
    (hsel : ∀ (j : Nat) (o : Oper) cs b, ops[j]? = some o → o.op ≠ .select cs b) (hQ : ∀ c a w, Q (.panic c) (a.put oi.dst v) w → Q (.panic c) a w) :
    ∀ (fuel : Nat) (listed : Array Bool) (a : Act) (w : World),
      (∀ j oj, ops[j]? = some oj → j ≠ i → listed.getD j true = false → (∀ e ∈ oj.after, Region.binds md e = true → e.on ≠ i) → oi.apart ops oj = true) →
      i ∈ Region.ready md ops listed → Yields P ops oi v a → (listed.getD p true = false → S w) →
      anyG P md ops Q S p fuel (listed.setIfInBounds i true) (a.put oi.dst v) w → anyG P md ops Q S p (fuel + 1) listed a w := by
  have hset : ∀ {listed : Array Bool}, (listed.setIfInBounds i true).getD p true = false → listed.getD p true = false := fun h => by rw [getD_set_ne true (Ne.symm hpi)] at h; exact h
  intro fuel
  induction fuel with
  | zero =>
    intro listed a w _ hr hy hS H
    refine ⟨fun h => (by rw [h] at hr; cases hr), fun j hj => ?_⟩
    by_cases hji : j = i
    · subst hji; exact hy.wpOp hi ⟨fun h => hS (hset h), H⟩
    · have := ready_mono hj hji
      rw [H.1] at this
      cases this
  | succ fuel ih =>
    intro listed a w hfree hr hy hS H
    refine ⟨fun h => (by rw [h] at hr; cases hr), fun j hj => ?_⟩
    by_cases hji : j = i
    · subst hji; exact hy.wpOp hi ⟨fun h => hS (hset h), H⟩
    · have h1 := H.2 j (ready_mono hj hji)
      obtain ⟨hjun, oj, hoj, hall⟩ := mem_ready.1 hj
      have h2 := wpOp_put hoj (hfree j oj hoj hji hjun (ready_not hr hj hoj)) (fun cs b => hsel i oi cs b hi) (fun cs b => hsel j oj cs b hoj) hQ hy h1
      refine wpOp_mono (fun a' w' h3 => ?_) h2
      have hS' : (listed.setIfInBounds j true).getD p true = false → S w' := fun h => h3.2.1 (by rw [Array.setIfInBounds_comm _ _ (Ne.symm hji), getD_set_ne true (Ne.symm hpi)]; exact h)
      refine ⟨hS', ih (listed.setIfInBounds j true) a' w' (free_next hjun hfree) (ready_mono hr (Ne.symm hji)) h3.1 hS' ?_⟩
      rw [Array.setIfInBounds_comm _ _ hji]
      exact h3.2.2
/-- the same where p waits for it through others: B holds p and waits, each for it or for one of B -/
theorem anyG_firstB {i : Nat} {oi : Oper} {v : Value} {B : List Nat} (hi : ops[i]? = some oi) (hpB : p ∈ B)
    (hB : ∀ k ∈ B, ∃ ok, ops[k]? = some ok ∧ ∃ e ∈ ok.after, Region.binds md e = true ∧ (e.on = i ∨ e.on ∈ B))
    (hsel : ∀ (j : Nat) (o : Oper) cs b, ops[j]? = some o → o.op ≠ .select cs b) (hQ : ∀ c a w, Q (.panic c) (a.put oi.dst v) w → Q (.panic c) a w) :
    ∀ (fuel : Nat) (listed : Array Bool) (a : Act) (w : World),
      (∀ j oj, ops[j]? = some oj → j ≠ i → listed.getD j true = false → (∀ e ∈ oj.after, Region.binds md e = true → e.on ≠ i) → oi.apart ops oj = true) →
      i ∈ Region.ready md ops listed → YieldsIf P ops S oi v a → (∀ k ∈ B, listed.getD k true = false) → S w →
      anyG P md ops Q S p fuel (listed.setIfInBounds i true) (a.put oi.dst v) w → anyG P md ops Q S p (fuel + 1) listed a w := by
  have hnB : ∀ {listed : Array Bool} {j : Nat}, i ∈ Region.ready md ops listed → (∀ k ∈ B, listed.getD k true = false) → j ∈ Region.ready md ops listed → j ∉ B := fun {listed} {j} hr hu hj hm => by
    obtain ⟨ok, hok, e, he, hb, hon⟩ := hB j hm
    obtain ⟨_, oj, hoj, hall⟩ := mem_ready.1 hj
    rw [hok] at hoj
    injection hoj with hoj
    subst hoj
    have h1 := hall e he hb
    have h0 : listed.getD e.on true = false := by
      rcases hon with hon | hon
      · rw [hon]; exact (mem_ready.1 hr).1
      · exact hu _ hon
    rcases Nat.lt_or_ge e.on listed.size with h' | h'
    · simp [h'] at h0 h1; rw [h0] at h1; cases h1
    · simp [Array.getElem?_eq_none h'] at h1
  intro fuel
  induction fuel with
  | zero =>
    intro listed a w _ hr hy hu hS H
    refine ⟨fun h => (by rw [h] at hr; cases hr), fun j hj => ?_⟩
    by_cases hji : j = i
    · subst hji; exact hy.wpOp hi hS ⟨fun _ => hS, H⟩
    · have := ready_mono hj hji
      rw [H.1] at this
      cases this
  | succ fuel ih =>
    intro listed a w hfree hr hy hu hS H
    refine ⟨fun h => (by rw [h] at hr; cases hr), fun j hj => ?_⟩
    by_cases hji : j = i
    · subst hji; exact hy.wpOp hi hS ⟨fun _ => hS, H⟩
    · have h1 := H.2 j (ready_mono hj hji)
      obtain ⟨hjun, oj, hoj, hall⟩ := mem_ready.1 hj
      have h2 := wpOp_putIf hoj (hfree j oj hoj hji hjun (ready_not hr hj hoj)) (fun cs b => hsel i oi cs b hi) (fun cs b => hsel j oj cs b hoj) hQ hy h1
      have hjB := hnB hr hu hj
      have hiB := hnB hr hu hr
      have hpi : i ≠ p := fun e => hiB (by rw [e]; exact hpB)
      have hpj : j ≠ p := fun e => hjB (by rw [e]; exact hpB)
      have hu' : ∀ k ∈ B, (listed.setIfInBounds j true).getD k true = false := fun k hk => by
        have hjk : j ≠ k := fun e => hjB (by rw [e]; exact hk)
        rw [getD_set_ne true hjk]; exact hu k hk
      refine wpOp_mono (fun a' w' h3 => ?_) h2
      have hS' : S w' := h3.2.1 (by rw [getD_set_ne true hpj, getD_set_ne true hpi]; exact hu p hpB)
      refine ⟨fun _ => hS', ih (listed.setIfInBounds j true) a' w' (free_next hjun hfree) (ready_mono hr (Ne.symm hji)) h3.1 hu' hS' ?_⟩
      rw [Array.setIfInBounds_comm _ _ hji]
      exact h3.2.2
/-- does each of B wait for i or for one of B? -/
def waitsB (md : Region.Mode) (ops : Array Oper) (B : List Nat) (i : Nat) : Bool := B.all fun k => match ops[k]? with
  | some ok => ok.after.any fun e => Region.binds md e && (e.on == i || B.contains e.on)
  | none => false
theorem anyG_loadB {i : Nat} {oi : Oper} {v : Value} {fuel : Nat} {listed : Array Bool} {a : Act} {w : World} (B : List Nat) (hi : ops[i]? = some oi) (hpB : B.contains p = true) (hw : waitsB md ops B i = true) (hu : (B.all fun k => !listed.getD k true) = true)
    (hs : Region.noSelect ops = true) (hf : Region.free md ops listed i = true) (hr : (Region.ready md ops listed).contains i = true) (hQ : ∀ c a w, Q (.panic c) (a.put oi.dst v) w → Q (.panic c) a w)
    (hS : S w) (hy : YieldsIf P ops S oi v a) (h : anyG P md ops Q S p fuel (listed.setIfInBounds i true) (a.put oi.dst v) w) : anyG P md ops Q S p (fuel + 1) listed a w := by
  refine anyG_firstB hi (by simpa using hpB) (fun k hk => ?_) (Region.noSelect_spec hs) hQ fuel listed a w (Region.free_spec hi hf) (by simpa using hr) hy (fun k hk => ?_) hS h
  · have h1 := List.all_eq_true.1 hw k hk
    cases e : ops[k]? with
    | none => rw [e] at h1; cases h1
    | some ok =>
      rw [e] at h1
      obtain ⟨x, hx, hb⟩ := Array.any_eq_true'.1 h1
      simp only [Bool.and_eq_true, Bool.or_eq_true, beq_iff_eq, List.contains_iff_mem] at hb
      exact ⟨ok, rfl, x, hx, hb.1, hb.2⟩
  · have h1 := List.all_eq_true.1 hu k hk
    simpa using h1
theorem anyG_load {i : Nat} {oi op : Oper} {v : Value} {fuel : Nat} {listed : Array Bool} {a : Act} {w : World} (hi : ops[i]? = some oi) (hop : ops[p]? = some op) (hpw : op.after.any (fun e => Region.binds md e && e.on == i) = true)
    (hs : Region.noSelect ops = true) (hf : Region.free md ops listed i = true) (hr : (Region.ready md ops listed).contains i = true) (hQ : ∀ c a w, Q (.panic c) (a.put oi.dst v) w → Q (.panic c) a w)
    (hp : listed.getD p true = false) (hS : S w) (hy : YieldsIf P ops S oi v a) (h : anyG P md ops Q S p fuel (listed.setIfInBounds i true) (a.put oi.dst v) w) : anyG P md ops Q S p (fuel + 1) listed a w :=
  anyG_first hi hop hpw (Region.noSelect_spec hs) hQ fuel listed a w (Region.free_spec hi hf) (by simpa using hr) hy hp hS h
theorem anyG_move {i : Nat} {oi : Oper} {v : Value} {fuel : Nat} {listed : Array Bool} {a : Act} {w : World} (hi : ops[i]? = some oi) (hpi : p ≠ i)
    (hs : Region.noSelect ops = true) (hf : Region.free md ops listed i = true) (hr : (Region.ready md ops listed).contains i = true) (hQ : ∀ c a w, Q (.panic c) (a.put oi.dst v) w → Q (.panic c) a w)
    (hS : listed.getD p true = false → S w) (hy : Yields P ops oi v a) (h : anyG P md ops Q S p fuel (listed.setIfInBounds i true) (a.put oi.dst v) w) : anyG P md ops Q S p (fuel + 1) listed a w :=
  anyG_free hi hpi (Region.noSelect_spec hs) hQ fuel listed a w (Region.free_spec hi hf) (by simpa using hr) hy hS h
theorem anyG_all {rs : List Nat} {fuel : Nat} {listed : Array Bool} {a : Act} {w : World} (hr : Region.ready md ops listed = rs) (hne : rs ≠ [])
    (h : ∀ i ∈ rs, wpOp P ops Q i (fun a' w' => ((listed.setIfInBounds i true).getD p true = false → S w') ∧ anyG P md ops Q S p fuel (listed.setIfInBounds i true) a' w') a w) : anyG P md ops Q S p (fuel + 1) listed a w :=
  ⟨fun h0 => absurd (hr ▸ h0) hne, hr ▸ h⟩
theorem anyG_one {i : Nat} {o : Oper} {fuel : Nat} {listed : Array Bool} {a : Act} {w : World} (hr : Region.ready md ops listed = [i]) (hi : ops[i]? = some o) (hg : o.guard = none)
    (h : ∀ K' : Act → World → Prop, (∀ a' w', ((listed.setIfInBounds i true).getD p true = false → S w') → anyG P md ops Q S p fuel (listed.setIfInBounds i true) a' w' → K' a' w') → Oper.wp P o a w K' Q) : anyG P md ops Q S p (fuel + 1) listed a w := by
  refine anyG_all hr (by simp) fun j hj => ?_
  rw [List.mem_singleton.1 hj]
  have hw : Region.wanted o (yielded ops a.tmps) = true := by simp [Region.wanted, hg]
  unfold wpOp
  simp only [hi, hw, if_true]
  exact .inl (h _ fun a' w' h1 h2 => ⟨h1, h2⟩)
theorem anyG_two {i j : Nat} {o q : Oper} {fuel : Nat} {listed : Array Bool} {a : Act} {w : World} (hr : Region.ready md ops listed = [i, j]) (hi : ops[i]? = some o) (hg : o.guard = none) (hj : ops[j]? = some q) (hgq : q.guard = none)
    (h1 : ∀ K' : Act → World → Prop, (∀ a' w', ((listed.setIfInBounds i true).getD p true = false → S w') → anyG P md ops Q S p fuel (listed.setIfInBounds i true) a' w' → K' a' w') → Oper.wp P o a w K' Q)
    (h2 : ∀ K' : Act → World → Prop, (∀ a' w', ((listed.setIfInBounds j true).getD p true = false → S w') → anyG P md ops Q S p fuel (listed.setIfInBounds j true) a' w' → K' a' w') → Oper.wp P q a w K' Q) : anyG P md ops Q S p (fuel + 1) listed a w := by
  refine anyG_all hr (by simp) fun k hk => ?_
  have hw : ∀ {o : Oper}, o.guard = none → Region.wanted o (yielded ops a.tmps) = true := fun hg => by simp [Region.wanted, hg]
  rcases List.mem_cons.1 hk with rfl | hk
  · unfold wpOp
    simp only [hi, hw hg, if_true]
    exact .inl (h1 _ fun a' w' h1 h2 => ⟨h1, h2⟩)
  · rw [List.mem_singleton.1 hk]
    unfold wpOp
    simp only [hj, hw hgq, if_true]
    exact .inl (h2 _ fun a' w' h1 h2 => ⟨h1, h2⟩)
theorem anyG_done {listed : Array Bool} {a : Act} {w : World} (hr : Region.ready md ops listed = []) (h : Q .normal a w) : ∀ fuel, anyG P md ops Q S p fuel listed a w
  | 0 => ⟨hr, h⟩
  | _ + 1 => ⟨fun _ => h, by rw [hr]; simp⟩
end
end Go.Proofs.YtmepmiokpcddbabGreatDoor

set_option linter.unusedVariables false
set_option linter.unusedSimpArgs false
namespace Go.Proofs.YtmepmiokpcddbabGreatDoor
open Go.RowKit

/-- what Plain answers -/
def plainV (cs : List ByteArray) (os : List Int) : (List ByteArray × List Int) × Int := if chkM cs os ≠ 0 then (([], []), chkM cs os) else (plN cs os cs.length, 0)
theorem plainV_bad {cs : List ByteArray} {os : List Int} (h : chkM cs os ≠ 0) : plainV cs os = (([], []), chkM cs os) := by unfold plainV; rw [if_pos h]
theorem plainV_ok {cs : List ByteArray} {os : List Int} (h : chkM cs os = 0) : plainV cs os = (plN cs os cs.length, 0) := by unfold plainV; rw [if_neg (by simp [h])]
theorem step_append_runP {P : Program} (w : World) {ops : Array Oper} {o : Oper} {a : Act} {K : Act → World → Prop} {Q : Exit → Act → World → Prop} {E : Prop} (hgd : o.guard = none) (s x : Operand) (t tn : TypeId)
    (ho : o.op = .call { callee := .builtin .append, args := #[s, x], argTypes := #[t, tn] }) (vs vx : Value) (hs : a.eval s = vs) (hx : a.eval x = vx)
    (v' : Value) (w' : World) (hr : (Builtin.append_ #[t, tn] o.type #[vs, vx]).run P w = .ok v' w') (h : K (a.put o.dst v') w') :
    if Region.wanted o (yielded ops a.tmps) = true then Oper.wp P o a w K Q else E := by
  have hw : Region.wanted o (yielded ops a.tmps) = true := by simp [Region.wanted, hgd]
  rw [if_pos hw]
  exact Lib.wp_append_run w s x t tn ho vs vx hs hx v' w' hr h
/-- while Plain runs -/
def PlI (w : World) (g gr gp : Nat) (m : Mp) (i : Value) (wr : World) : Prop :=
  ∃ (k : Nat) (n : Mp), k ≤ m.cs.length ∧ i = .int .i64 k ∧ n.cs = (plN m.cs m.os k).1 ∧ n.os = (plN m.cs m.os k).2 ∧ Pb w g gr gp m n wr

set_option maxHeartbeats 2000000 in
set_option maxRecDepth 100000 in
theorem shplain_any (m : Mp) (w : World) (hm : MS w m) (l2 : m.os.length ≤ 9223372036854775807) :
    Calls Tryz.prog 38 #[.agg #[.slice m.A m.cs.length m.ca, .slice m.O m.os.length m.co]] w (RetMr w (plainV m.cs m.os)) := by
  have hH0 := MH.new hm
  have hH := hH0.below ((Below.refl _ _).alloc (Nat.le_refl _) (.cells #[.slice none 0 0, .slice none 0 0] 28))
  have x1 := Box.new (w.alloc (.cells #[.slice m.A m.cs.length m.ca, .slice m.O m.os.length m.co] 28)) 28 #[.slice none 0 0, .slice none 0 0]
  simp only [World.size_alloc] at x1
  clear hH0
  go_enter Tryz.func38, Tryz.ntmps38
  obtain ⟨z1, z2⟩ := hH.c
  go_wp2_with fail
  have hlow : w.heap.size ≤ w.heap.size := Nat.le_refl _
  generalize (w.alloc _).alloc _ = w1 at hH z1 z2 x1 ⊢
  generalize hg : w.heap.size = g at hH z1 z2 x1 hlow ⊢
  have HG := hideP hg
  clear hg hlow
  refine (shcheck_any m _ hH.ms l2).mono ?_
  rintro e w2 ⟨rfl, hb2⟩
  replace hH := hH.below hb2
  replace x1 := x1.below hb2
  clear hb2 z1 z2
  by_cases hc : chkM m.cs m.os = 0
  · have hok := chkM_ok.1 hc
    have hfew := hok.few
    have hlen := hok.len
    have HV := hideP (plainV_ok hc)
    rw [hc]
    clear hc
    obtain ⟨z1, z2⟩ := hH.c
    obtain ⟨bO, oO, eO, hbO, z3⟩ := hH.ms.own 0 (m.os.getD 0 0) (by simp [List.getD_eq_getElem?_getD, show 0 < m.os.length by omega])
    rw [eO] at z2
    simp only [Nat.add_zero] at z3
    have g0 : (0 : Int) < (m.os.length : Int) := by omega
    have hI : PlI w g (g + 1) (w2.heap.size + 1) m (.int .i64 0) ((w2.alloc (.cells #[.int .i64 (m.os.getD 0 0)] 3)).alloc (.cells #[.slice none 0 0, .slice (some ⟨w2.heap.size, 0, none⟩) 1 1] 28)) := by
      have y1 := Box.new w2 3 #[.int .i64 (m.os.getD 0 0)]
      have y2 := Box.new (w2.alloc (.cells #[.int .i64 (m.os.getD 0 0)] 3)) 28 #[.slice none 0 0, .slice (some ⟨w2.heap.size, 0, none⟩) 1 1]
      have b1 := (Below.refl w2.heap.size w2).alloc (Nat.le_refl _) (.cells #[.int .i64 (m.os.getD 0 0)] 3)
      have b2 := b1.alloc (by simp) (.cells #[.slice none 0 0, .slice (some ⟨w2.heap.size, 0, none⟩) 1 1] 28)
      simp only [World.size_alloc] at y2
      have hl2 := x1.lt
      have hsz := hH.be.size
      refine ⟨0, ⟨none, 0, [], some ⟨w2.heap.size, 0, none⟩, 1, [m.os.getD 0 0]⟩, Nat.zero_le _, rfl, rfl, rfl, hH.below b2, hm, x1.below b2, y2, ⟨OR.nil _ _ _, ?_⟩, by rw [← HG.out]; exact Nat.le_refl _, by omega, by omega⟩
      have := y1.alloc (.cells #[.slice none 0 0, .slice (some ⟨w2.heap.size, 0, none⟩) 1 1] 28)
      exact ⟨by simp, .inr ⟨w2.heap.size, 1, _, rfl, hsz, this, by simp, by simp [maxLen], by simp, by simp⟩⟩
    have z4 := (hH.below (((Below.refl w2.heap.size w2).alloc (Nat.le_refl _) (.cells #[.int .i64 (m.os.getD 0 0)] 3)).alloc (by simp) (.cells #[.slice none 0 0, .slice (some ⟨w2.heap.size, 0, none⟩) 1 1] 28))).c.1
    have HI := hideP hI
    have HL := hideP hlen
    clear hI hlen
    generalize m.os.getD 0 0 = v0 at z3 z4 HI
    go_wp2_with fail
    generalize (w2.alloc _).alloc _ = w3 at HI z4 ⊢
    generalize w2.heap.size + 1 = gp at HI ⊢
    generalize w2.heap.size = gi at HI ⊢
    clear z1 z2 z3 z4 hbO hH x1 w1
    go_loopw [23] (PlI w g (g + 1) gp m) (fun i _ => m.cs.length - (intOf i).toNat)
    case atStart => exact HI.out
    case round =>
      obtain ⟨k, n, hk, rfl, hn1, hn2, hP⟩ := hrel
      have HN1 := hideP hn1
      have HN2 := hideP hn2
      clear hn1 hn2
      by_cases hlt : k < m.cs.length
      · have hl1 := HL.out
        obtain ⟨bA, oA, eA, _, q1⟩ := hP.mh.ms.cuts k (.string m.cs[k]) (by simp [hlt])
        obtain ⟨b1, o1, e1, _, q2⟩ := hP.mh.ms.own k (m.os.getD k 0) (by simp [List.getD_eq_getElem?_getD, show k < m.os.length by omega])
        obtain ⟨b2, o2, e2, _, q3⟩ := hP.mh.ms.own (k + 1) (m.os.getD (k + 1) 0) (by simp [List.getD_eq_getElem?_getD, show k + 1 < m.os.length by omega])
        rw [eO] at e1 e2
        injection e1 with e1
        injection e1 with e1 e1'
        injection e2 with e2
        injection e2 with e2 e2'
        subst e1; subst e1'; subst e2; subst e2'
        have z2 := hP.mh.c.2
        rw [eO] at z2
        have HQ := hideP (fun (wx : World) (hbx : Below w.heap.size w wx) => show wx.cell? ⟨bO, oO + (k + 1), none⟩ = some (.int .i64 (m.os.getD (k + 1) 0)) from by
          obtain ⟨b3, o3, e3, _, q5⟩ := (hm.below hbx).own (k + 1) (m.os.getD (k + 1) 0) (by simp [List.getD_eq_getElem?_getD, show k + 1 < m.os.length by omega])
          rw [eO] at e3
          injection e3 with e3
          injection e3 with e3 e3'
          subst e3; subst e3'
          exact q5)
        have hck : m.cs.getD k ByteArray.empty = m.cs[k] := by simp [List.getD_eq_getElem?_getD, hlt]
        have HS := hideP (plN_succ m.cs m.os k)
        rw [hck] at HS
        have hnl := plN_len m.cs m.os k
        have hns := (plN_sub (cs := m.cs) m.os (show k ≤ m.cs.length by omega)).length_le
        rw [List.length_take, ← HN1.out] at hns
        rw [← HN1.out, ← HN2.out] at hnl
        have hnc : n.cs.length ≤ 1000 := by omega
        have hno : n.os.length ≤ 1000 := by omega
        clear hns hnl
        have g1 : (0 : Int) ≤ (k : Int) := by omega
        have g2 : (k : Int) < (m.cs.length : Int) := by omega
        have g3 : (k : Int) < (m.os.length : Int) := by omega
        have g4 : (k : Int) + 1 < (m.os.length : Int) := by omega
        have g5 : (0 : Int) ≤ (k : Int) + 1 := by omega
        have g6 : ((k : Int) + 1).toNat = k + 1 := by omega
        have pk : IntKind.i64.wrap ((k : Int) + 1) = (k : Int) + 1 := by simp only [IntKind.wrap_i64]; omega
        clear hl1 hck
        generalize m.cs[k] = c at q1 HS
        generalize m.os.getD k 0 = x at q2 HS
        generalize m.os.getD (k + 1) 0 = y at q3 HS HQ
        rw [eA]
        by_cases hxy : x = y
        · have dd : (x != y) = false := by simp [hxy]
          have HE := hideP (show plN m.cs m.os (k + 1) = plN m.cs m.os k by rw [HS.out, if_pos hxy.symm])
          clear hxy
          go_wp2_with fail
          go_quiet (fail)
          go_wp2_with fail
          go_roundw
          case rel => exact ⟨k + 1, n, by omega, by go_num, by rw [HE.out, HN1.out], by rw [HE.out, HN2.out], hP.below ⟨rfl, rfl, rfl, Nat.le_refl _, fun _ _ => rfl⟩⟩
          case measure => simp [intOf]; omega
        · have dd : (x != y) = true := by simp [hxy]
          have HE := hideP (show plN m.cs m.os (k + 1) = ((plN m.cs m.os k).1 ++ [c], (plN m.cs m.os k).2 ++ [y]) by rw [HS.out, if_neg (fun e => hxy e.symm)])
          clear hxy HS
          go_wp2_with fail
          go_quiet (fail)
          replace hP := hP.below (w' := wr.drewN nq) ⟨rfl, rfl, rfl, Nat.le_refl _, fun _ _ => rfl⟩
          generalize wr.drewN nq = wq at hP ⊢
          clear q1 q2 q3 z2
          obtain ⟨A', ca', a1, hrun, hbx, hP2⟩ := hP.addC hnc c
          have c0 := hP.box.cell 0 (v := .slice n.A n.cs.length n.ca) rfl
          have c0' := hbx.cell 0 (v := .slice n.A n.cs.length n.ca) rfl
          have f0 := hbx.frozen 0
          have HR := hideP hrun
          clear hrun hP hbx
          go_wp2_with (at_builtin; refine Lib.wpList_append_run _ rfl _ _ _ _ rfl _ _ rfl rfl _ _ HR.out ?_)
          clear HR c0 c0' f0
          generalize a1.setCell _ _ = w5 at hP2 ⊢
          replace hP2 := hP2.below (Below.refl _ _).drew
          obtain ⟨O', co', a2, hrun, hbx, hP3⟩ := hP2.addO hno y
          have HR := hideP hrun
          clear hrun
          rw [show w5.drew.alloc (.cells #[.int .i64 y] 3) = (w5.alloc (.cells #[.int .i64 y] 3)).drew from rfl] at HR
          have hal : Pb w g (g + 1) gp m _ (w5.alloc (.cells #[.int .i64 y] 3)).drew := hP2.below ((Below.refl w5.drew.heap.size w5.drew).alloc (Nat.le_refl _) (.cells #[.int .i64 y] 3))
          have q3 : w5.drew.cell? ⟨bO, oO + (k + 1), none⟩ = some (.int .i64 y) := HQ.out _ hP2.mh.be
          have q4 : (w5.alloc (.cells #[.int .i64 y] 3)).drew.cell? ⟨bO, oO + (k + 1), none⟩ = some (.int .i64 y) := HQ.out _ hal.mh.be
          have z2 := hP2.mh.c.2
          have z3 := hal.mh.c.2
          have c1 := hP2.box.cell 1 (v := .slice n.O n.os.length n.co) rfl
          have c2 := hal.box.cell 1 (v := .slice n.O n.os.length n.co) rfl
          have c3 := hbx.cell 1 (v := .slice n.O n.os.length n.co) rfl
          have f1 := hbx.frozen 1
          rw [eO] at z2 z3
          have HF := hideP (show PlI w g (g + 1) gp m (.int .i64 ((k : Int) + 1)) _ from ⟨k + 1, _, hlt, by simp, by rw [HE.out, HN1.out], by rw [HE.out, HN2.out], hP3⟩)
          clear hP2 hal hP3 hbx
          go_region_law (refine step_append_runP _ rfl _ _ _ _ rfl _ _ rfl rfl _ _ HR.out ?_)
          all_goals
            go_wp2_with fail
            go_roundw
            case rel => exact HF.out
            case measure => simp [intOf]; omega
      · have hkk : k = m.cs.length := by omega
        subst hkk
        have c0 := hP.box.cell 0 (v := .slice n.A n.cs.length n.ca) rfl
        have c1 := hP.box.cell 1 (v := .slice n.O n.os.length n.co) rfl
        have f0 := hP.res.frozen 0
        have f1 := (hP.res.set 0 (.slice n.A n.cs.length n.ca)).frozen 1
        have d0 := hP.res.cell 0 rfl
        have d1 := (hP.res.set 0 (.slice n.A n.cs.length n.ca)).cell 1 (v := .slice none 0 0) rfl
        have r := (hP.res.set 0 (.slice n.A n.cs.length n.ca)).set 1 (.slice n.O n.os.length n.co)
        have q0 := r.cell 0 (v := .slice n.A n.cs.length n.ca) rfl
        have q1 := r.cell 1 (v := .slice n.O n.os.length n.co) rfl
        have HF := hideP (res_set hP.res (by have := hP.low; have := hP.lr; omega) hP.mo hP.mh.be (.slice n.A n.cs.length n.ca) (.slice n.O n.os.length n.co))
        clear r
        go_wp2_with fail
        exact bodyPost_ret (v := .tuple #[.agg #[.slice n.A n.cs.length n.ca, .slice n.O n.os.length n.co], .int .i64 0]) (by simp [results, Tryz.results38, go_sem, q0, q1]) rfl ⟨n, by rw [HV.out], by rw [HV.out]; exact HN1.out, by rw [HV.out]; exact HN2.out, HF.out.1, HF.out.2⟩
  · have d : (chkM m.cs m.os != 0) = true := by simp [hc]
    have HV := hideP (plainV_bad hc)
    clear hc
    have f0 := x1.frozen 0
    have f1 := (x1.set 0 (.slice none 0 0)).frozen 1
    have d0 := x1.cell 0 rfl
    have d1 := (x1.set 0 (.slice none 0 0)).cell 1 (v := .slice none 0 0) rfl
    have r := (x1.set 0 (.slice none 0 0)).set 1 (.slice none 0 0)
    have q0 := r.cell 0 (v := .slice none 0 0) rfl
    have q1 := r.cell 1 (v := .slice none 0 0) rfl
    have HF := hideP (res_set (n := noM) x1 (by rw [← HG.out]; omega) (noM_mo _ _) hH.be (.slice none 0 0) (.slice none 0 0))
    generalize hq : chkM m.cs m.os = q at d HV
    clear r hq
    go_wp2_with fail
    exact bodyPost_ret (v := .tuple #[.agg #[.slice none 0 0, .slice none 0 0], .int .i64 q]) (by simp [results, Tryz.results38, go_sem, q0, q1]) rfl ⟨noM, by rw [HV.out]; rfl, by rw [HV.out]; rfl, by rw [HV.out]; rfl, HF.out.1, HF.out.2⟩
end Go.Proofs.YtmepmiokpcddbabGreatDoor
