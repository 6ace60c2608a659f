/-
  Three inputs to which entries come in turn, plainly (no program in it).
  rotop.begun and storeKept.
  slices.Equal at pairs: two that read the same are equal.
-/
import Derived.Test.YtcopmdgcjnkiaaaGreatBv10
import Derived.Test.YtcopmdgcjnkiaaaGreatBv18
import Derived.Test.YtcopmdgcjnkiaaaGreatBv17
import Derived.Test.YtcopmdgcjnkiaaaGreatBv13
import Derived.WalkKit
import Derived.WalkSpells
import Derived.WalkLawsBesides
import Derived.Deep.QuietTactic
import Derived.BigQuiet
import Derived.Laws.StructEq
set_option linter.unusedVariables false
set_option linter.unusedSimpArgs false
namespace Go.Proofs.YtcopmdgcjnkiaaaGreat

/-- those of the first n entries whose number leaves i -/
def sel (es : List Ent) (i n : Nat) : List Ent := (List.range n).filterMap fun j => if j % 3 = i then es[j]? else none
theorem sel_zero (es : List Ent) (i : Nat) : sel es i 0 = [] := rfl
theorem sel_succ {es : List Ent} {n : Nat} (i : Nat) (h : n < es.length) : sel es i (n + 1) = sel es i n ++ (if n % 3 = i then [es[n]] else []) := by
  unfold sel
  rw [List.range_succ, List.filterMap_append]
  congr 1
  by_cases e : n % 3 = i <;> simp [e, h]
theorem sel_le (es : List Ent) (i n : Nat) : (sel es i n).length ≤ n := by
  have := List.length_filterMap_le (fun j => if j % 3 = i then es[j]? else none) (List.range n)
  rw [List.length_range] at this
  exact this
theorem sel_mem {es : List Ent} {i n : Nat} {x : Ent} (h : x ∈ sel es i n) : x ∈ es := by
  unfold sel at h
  obtain ⟨j, _, hj⟩ := List.mem_filterMap.1 h
  split at hj
  · exact List.mem_of_getElem? hj
  · cases hj
theorem sel_tot (es : List Ent) : ∀ n, n ≤ es.length → (sel es 0 n).length + (sel es 1 n).length + (sel es 2 n).length = n := by
  intro n
  induction n with
  | zero => intro _; rfl
  | succ n ih =>
    intro h
    have := ih (by omega)
    rw [sel_succ 0 (by omega), sel_succ 1 (by omega), sel_succ 2 (by omega)]
    have h3 : n % 3 = 0 ∨ n % 3 = 1 ∨ n % 3 = 2 := by omega
    rcases h3 with e | e | e <;> rw [e] <;> simp <;> omega
/-- three inputs -/
def tri (f : Nat → List (List Ent)) : List (List (List Ent)) := [f 0, f 1, f 2]
def upF (f : Nat → List (List Ent)) (i : Nat) (v : List (List Ent)) : Nat → List (List Ent) := fun j => if j = i then v else f j
section
variable {f g : Nat → List (List Ent)} {i : Nat}
theorem lt3 (h : i < 3) : i = 0 ∨ i = 1 ∨ i = 2 := by omega
theorem tri_get (h : i < 3) : (tri f)[i]? = some (f i) := by rcases lt3 h with rfl | rfl | rfl <;> rfl
theorem tri_congr (h : ∀ j, j < 3 → f j = g j) : tri f = tri g := by unfold tri; rw [h 0 (by omega), h 1 (by omega), h 2 (by omega)]
theorem tri_add (h : i < 3) (x : Ent) : addM (tri f) i x = tri (upF f i ((f i).modify ((f i).length - 1) (· ++ [x]))) := by rcases lt3 h with rfl | rfl | rfl <;> rfl
theorem tri_close (h : i < 3) : closeM (tri f) i = tri (upF f i (f i ++ [[]])) := by rcases lt3 h with rfl | rfl | rfl <;> rfl
theorem tri_none (h : i < 3) (he : (f i).length = 1) : logM (tri f) = [] := by
  have : rndM (tri f) = 0 := by
    have := rnd_le (tri f) (List.mem_of_getElem? (tri_get (f := f) h))
    omega
  unfold logM; rw [this]; rfl
theorem tri_all {x : Nat → List Ent} (h : ∀ j, j < 3 → f j = [x j, []]) : logM (tri f) = x 0 ++ x 1 ++ x 2 := by
  rw [tri_congr (g := fun j => [x j, []]) h]
  simp [logM, logUp, rndM, cloL, roundL, tri]
theorem tri_tot (h : ∀ j, j < 3 → ((f j).map List.length).sum ≤ 12) : totM (tri f) ≤ 36 := by
  have h0 := h 0 (by omega)
  have h1 := h 1 (by omega)
  have h2 := h 2 (by omega)
  simp only [totM, tri, List.map_cons, List.map_nil, List.sum_cons, List.sum_nil]
  omega
end
/-- while they come in -/
def fA (es : List Ent) (k j : Nat) : List (List Ent) := [sel es j k]
/-- while they are closed -/
def fC (es : List Ent) (n i j : Nat) : List (List Ent) := if j < i then [sel es j n, []] else [sel es j n]
theorem fA_add {es : List Ent} {k : Nat} (h : k < es.length) : addM (tri (fA es k)) (k % 3) es[k] = tri (fA es (k + 1)) := by
  rw [tri_add (by omega)]
  refine tri_congr fun j hj => ?_
  unfold upF fA
  rw [sel_succ j h]
  by_cases e : j = k % 3
  · rw [if_pos e, if_pos e.symm]; subst e; rfl
  · rw [if_neg e, if_neg (fun h => e h.symm)]; simp
theorem fC_zero (es : List Ent) (n : Nat) : tri (fA es n) = tri (fC es n 0) := tri_congr fun j _ => by simp [fA, fC]
theorem fC_close {es : List Ent} {n i : Nat} (h : i < 3) : closeM (tri (fC es n i)) i = tri (fC es n (i + 1)) := by
  rw [tri_close h]
  refine tri_congr fun j hj => ?_
  unfold upF fC
  by_cases e : j = i
  · subst e; simp
  · rw [if_neg e]
    by_cases e2 : j < i
    · rw [if_pos e2, if_pos (by omega)]
    · rw [if_neg e2, if_neg (by omega)]
/-- which inputs are done -/
def dn : Nat → Nat → Nat → Bool
  | 0, _, _ => false
  | k + 1, t, j => dn k t j || decide ((k + t) % 3 = j)
theorem dn_self {k t : Nat} (hk : k < 3) (ht : t < 3) : dn k t ((k + t) % 3) = false := by
  rcases lt3 hk with rfl | rfl | rfl <;> rcases lt3 ht with rfl | rfl | rfl <;> rfl
theorem dn_all {t j : Nat} (ht : t < 3) (hj : j < 3) : dn 3 t j = true := by
  rcases lt3 ht with rfl | rfl | rfl <;> rcases lt3 hj with rfl | rfl | rfl <;> rfl
def fB (es : List Ent) (n k t j : Nat) : List (List Ent) := if dn k t j = true then [sel es j n, []] else [[]]
/-- while the entries of one input come in -/
def fB2 (es : List Ent) (n k t i m : Nat) : Nat → List (List Ent) := upF (fB es n k t) i [sel es i m]
theorem fB2_zero {es : List Ent} {n k t : Nat} (hk : k < 3) (ht : t < 3) : tri (fB es n k t) = tri (fB2 es n k t ((k + t) % 3) 0) := tri_congr fun j _ => by
  unfold fB2 upF
  by_cases e : j = (k + t) % 3
  · rw [if_pos e]; subst e; unfold fB; rw [if_neg (by rw [dn_self hk ht]; decide)]; rfl
  · rw [if_neg e]
theorem fB2_add {es : List Ent} {n k t i m : Nat} (hi : i < 3) (hm : m < es.length) (e : m % 3 = i) : addM (tri (fB2 es n k t i m)) i es[m] = tri (fB2 es n k t i (m + 1)) := by
  rw [tri_add hi]
  refine tri_congr fun j hj => ?_
  unfold fB2
  by_cases e2 : j = i
  · subst e2; unfold upF; simp only [if_true]; rw [sel_succ _ hm, if_pos e]; rfl
  · unfold upF; rw [if_neg e2, if_neg e2, if_neg e2]
theorem fB2_skip {es : List Ent} {n k t i m : Nat} (hm : m < es.length) (e : ¬ m % 3 = i) : tri (fB2 es n k t i m) = tri (fB2 es n k t i (m + 1)) := by
  unfold fB2; rw [sel_succ _ hm, if_neg e, List.append_nil]
theorem fB2_close {es : List Ent} {n k t : Nat} (hk : k < 3) (ht : t < 3) : closeM (tri (fB2 es n k t ((k + t) % 3) n)) ((k + t) % 3) = tri (fB es n (k + 1) t) := by
  rw [tri_close (by omega)]
  refine tri_congr fun j hj => ?_
  unfold fB2 upF
  by_cases e : j = (k + t) % 3
  · rw [if_pos e]; subst e; simp only [if_true]; unfold fB; rw [if_pos (by simp [dn])]; rfl
  · rw [if_neg e, if_neg e]; unfold fB
    have : dn (k + 1) t j = dn k t j := by simp [dn, Ne.symm e]
    rw [this]
theorem fB_none (es : List Ent) (n : Nat) {k t : Nat} (hk : k < 3) (ht : t < 3) : logM (tri (fB es n k t)) = [] :=
  tri_none (i := (k + t) % 3) (by omega) (by unfold fB; rw [if_neg (by rw [dn_self hk ht]; decide)]; rfl)
theorem fB_all (es : List Ent) (n : Nat) {t : Nat} (ht : t < 3) : logM (tri (fB es n 3 t)) = sel es 0 n ++ sel es 1 n ++ sel es 2 n :=
  tri_all (x := fun j => sel es j n) fun j hj => by unfold fB; rw [if_pos (dn_all ht hj)]
theorem fC_all (es : List Ent) (n : Nat) : logM (tri (fC es n 3)) = sel es 0 n ++ sel es 1 n ++ sel es 2 n :=
  tri_all (x := fun j => sel es j n) fun j hj => by unfold fC; rw [if_pos hj]
theorem fA_tot (es : List Ent) {k : Nat} (h : k ≤ 12) : totM (tri (fA es k)) ≤ 36 := tri_tot fun j _ => by
  have := sel_le es j k
  simp [fA]; omega
theorem fB2_tot (es : List Ent) {n k t i m : Nat} (h : n ≤ 12) (hm : m ≤ 12) : totM (tri (fB2 es n k t i m)) ≤ 36 := tri_tot fun j _ => by
  have h1 := sel_le es j n
  have h2 := sel_le es i m
  unfold fB2 upF fB
  split
  · simp; omega
  · split <;> simp <;> omega
/-- deeds alone: the map makes no difference -/
theorem play_deeds (l : List Ent) : ∀ (a b : Sr), a.v = b.v → a.bs = b.bs → (∀ x ∈ l, x.isM = false) → (playR a l).v = (playR b l).v ∧ (playR a l).bs = (playR b l).bs := by
  induction l with
  | nil => intro a b h1 h2 _; exact ⟨h1, h2⟩
  | cons x l ih =>
    intro a b h1 h2 h
    have hx := h x (by simp)
    refine ih (stepR a x) (stepR b x) ?_ ?_ fun y hy => h y (by simp [hy])
    · unfold stepR; rw [hx]; simp [h1]
    · unfold stepR; rw [hx]; simp [h1, h2]
end Go.Proofs.YtcopmdgcjnkiaaaGreat

set_option linter.unusedVariables false
set_option linter.unusedSimpArgs false
namespace Go.Proofs.YtcopmdgcjnkiaaaGreat
open Go.RowKit

set_option maxHeartbeats 400000 in
set_option maxRecDepth 100000 in
theorem tbegun_any (w : World) : Calls Tryz.prog 25 #[] w fun e w' => e = .returned (.bool true) ∧ Below w.heap.size w w' := by
  have hok : Ok [((⟨#[97]⟩ : ByteArray), (1 : Int))] := chk_ok.1 (by decide +kernel)
  have HL := hideP (fun l' (h1 : Ok l') (h2 : valOf l' = upd (valOf []) ⟨#[97]⟩ 1) => show l'.length = 1 from by
    rw [h1.ext hok fun k => by
      rw [h2]
      by_cases e : k = ⟨#[97]⟩
      · subst e; rw [upd_same, valOf_mem (p := ((⟨#[97]⟩ : ByteArray), (1 : Int))) hok.srt (by simp)]
      · rw [upd_other _ _ e, valOf_none (by simp), valOf_none (fun p hp h => e (by simp at hp; subst hp; exact h.symm))]]
    rfl)
  clear hok
  have HP := hideP (put_st none 0 [] ⟨#[97]⟩ 1 w (SV.nil w) Ok.nil (by decide +kernel) (by decide))
  go_enter Tryz.func25, Tryz.ntmps25
  go_wp2_with fail
  refine HP.out.mono ?_
  rintro e w1 ⟨A, c, l', rfl, _, hok, hv, hb, _⟩
  rw [HL.out l' hok hv]
  clear HP HL hv
  go_wp2_with fail
  go_ret
  exact ⟨rfl, hb⟩
end Go.Proofs.YtcopmdgcjnkiaaaGreat

set_option linter.unusedVariables false
set_option linter.unusedSimpArgs false
namespace Go.Proofs.YtcopmdgcjnkiaaaGreat
open Go.RowKit

theorem run_neq_pair (k : ByteArray) (n : Int) (w : World) : (binOp .neq 64 (.agg #[.string k, .int .i64 n]) (.agg #[.string k, .int .i64 n])).run Tryz.prog w = .ok (.bool false) w := by
  have u3 := Tryz.underlying3
  have u9 := Tryz.underlying9
  have a3 := Tryz.isAgg3
  have z3 := Tryz.sizeOf3
  have a9 := Tryz.isAgg9
  have z9 := Tryz.sizeOf9
  have hS : Tryz.prog.underlying 64 = some (.struct (Tryz.prog.fieldsOf 64)) := by kernel_rfl
  have hp : Tryz.prog.stoodInHeld 64 = false := by kernel_rfl
  rw [run_neq_struct, show (10000 : Nat) = 9999 + 1 from rfl, run_equalIn_agg w 9999 64 _ _ hS hp]
  simp only [Program.fieldsOf, Tryz.underlying64]
  go_simp

theorem guard_pair (x y : Operand) (xs ys : Array Value) (w : World) : (eqGuard .neq 64 x y (.agg xs) (.agg ys)).run Tryz.prog w = .ok () w := run_eqGuard_agg w .neq 64 x y xs ys (by kernel_rfl)

set_option maxHeartbeats 400000 in
set_option maxRecDepth 100000 in
theorem equal_same (A1 A2 : Option Addr) (c1 c2 : Nat) (l : List Pr) (w : World) (h1 : PS w w.heap.size A1 l) (h2 : PS w w.heap.size A2 l) (hl : l.length < 4611686018427387904) :
    Calls Tryz.prog 20 #[.slice A1 l.length c1, .slice A2 l.length c2] w fun e w' => e = .returned (.bool true) ∧ Below w.heap.size w w' := by
  have d0 : ((l.length : Int) != (l.length : Int)) = false := by simp
  go_enter Tryz.func20, Tryz.ntmps20
  go_wp2_with fail
  go_loopw [13] (fun i wr => ∃ k : Nat, k ≤ l.length ∧ i = .int .i64 k ∧ Below w.heap.size w wr) (fun i _ => l.length - (intOf i).toNat)
  case atStart => exact ⟨0, Nat.zero_le _, rfl, Below.refl _ _⟩
  case round =>
    obtain ⟨k, hk, rfl, hb⟩ := hrel
    by_cases hlt : k < l.length
    · obtain ⟨b, o, rfl, hbl, q1, q2⟩ := h1.below hb k _ (List.getElem?_eq_getElem hlt)
      obtain ⟨b', o', rfl, hbl', q3, q4⟩ := h2.below hb k _ (List.getElem?_eq_getElem hlt)
      clear h1 h2
      generalize l[k] = p at q1 q2 q3 q4
      have g1 : (0 : Int) ≤ (k : Int) := by omega
      have g2 : (k : Int) < (l.length : Int) := by omega
      have n1 := run_neq_pair p.1 p.2
      have n2 := guard_pair
      go_wp2_with fail
      go_quiet (fail)
      go_wp2_with fail
      go_roundw
      case rel => exact ⟨k + 1, by omega, by go_num, ⟨hb.os, hb.tape, hb.output, hb.size, hb.block⟩⟩
      case measure => simp [intOf]; omega
    · go_wp2_with fail
      go_ret
      exact ⟨rfl, hb⟩
end Go.Proofs.YtcopmdgcjnkiaaaGreat
