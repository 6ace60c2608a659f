/-
  Who is left, by the transactions that were added and those that are gone (no program in it).
  Rows of one-cell values that are written (no body of the program in it).
  Transactions plainly, rows of one-cell values that are written (no body of the program in it).
  Transactions plainly, rows of bools that are written (no body of the program in it).
-/
import Derived.Test.YtpefdonhacmaoaaGreatBo27
import Derived.Test.YtpefdonhacmaoaaGreatBo11
import Derived.Test.YtpefdonhacmaoaaGreatBo17
set_option linter.unusedVariables false
set_option linter.unusedSimpArgs false
namespace Go.Proofs.YtpefdonhacmaoaaGreat

/-- left lists those of dd that are not gone, in order -/
structure Lk (left : List En) (dd : List (List Opr)) (gone : Nat → Bool) : Prop where
  asc : Asc left
  mem : ∀ e ∈ left, e.seq < dd.length ∧ gone e.seq = false ∧ dd.getD e.seq [] = e.d
  full : ∀ i, i < dd.length → gone i = false → ∃ e ∈ left, e.seq = i
/-- does the k-th wait? -/
def wtB (dd : List (List Opr)) (gone : Nat → Bool) (k n : Nat) : Bool := (List.range n).any fun i => !gone i && clB (dd.getD i []) (dd.getD k [])
theorem wtB_zero (dd : List (List Opr)) (gone : Nat → Bool) (k : Nat) : wtB dd gone k 0 = false := rfl
theorem wtB_succ (dd : List (List Opr)) (gone : Nat → Bool) (k n : Nat) : wtB dd gone k (n + 1) = (wtB dd gone k n || (!gone n && clB (dd.getD n []) (dd.getD k []))) := by
  unfold wtB; rw [List.range_succ, List.any_append]; simp
theorem wtB_iff {dd : List (List Opr)} {gone : Nat → Bool} {k n : Nat} : wtB dd gone k n = false ↔ ∀ i, i < n → gone i = false → clB (dd.getD i []) (dd.getD k []) = false := by
  unfold wtB
  rw [List.any_eq_false]
  constructor
  · intro h i hi hg
    have := h i (List.mem_range.2 hi)
    rw [hg] at this
    simpa using this
  · intro h i hi
    have hi := List.mem_range.1 hi
    cases hg : gone i with
    | true => simp
    | false => rw [h i hi hg]; simp
section
variable {left : List En} {dd : List (List Opr)} {gone : Nat → Bool}
theorem Lk.nil (gone : Nat → Bool) : Lk [] [] gone := ⟨List.Pairwise.nil, by simp, by simp⟩
theorem Lk.add (h : Lk left dd gone) (hg : gone dd.length = false) (A : Option Addr) (c : Nat) (d : List Opr) : Lk (left ++ [⟨dd.length, A, c, d⟩]) (dd ++ [d]) gone := by
  refine ⟨?_, fun e he => ?_, fun i hi hgi => ?_⟩
  · unfold Asc
    rw [List.pairwise_append]
    exact ⟨h.asc, by simp, fun a ha b hb => by rw [List.mem_singleton.1 hb]; exact (h.mem a ha).1⟩
  · rcases List.mem_append.1 he with he | he
    · obtain ⟨h1, h2, h3⟩ := h.mem e he
      refine ⟨by simp; omega, h2, ?_⟩
      rw [← h3]
      simp [List.getD_eq_getElem?_getD, List.getElem?_append_left h1]
    · rw [List.mem_singleton.1 he]
      exact ⟨by simp, hg, by simp [List.getD_eq_getElem?_getD]⟩
  · rw [List.length_append, List.length_singleton] at hi
    by_cases hl : i < dd.length
    · obtain ⟨e, he, h1⟩ := h.full i hl hgi
      exact ⟨e, List.mem_append_left _ he, h1⟩
    · exact ⟨_, List.mem_append_right _ (List.mem_singleton.2 rfl), by simp only; omega⟩
theorem Lk.free (h : Lk left dd gone) (s : Nat) : Lk (left.filter (fun e => !decide ((e.seq : Int) = (s : Int)))) dd (fun i => gone i || decide (i = s)) := by
  refine ⟨h.asc.sublist List.filter_sublist, fun e he => ?_, fun i hi hgi => ?_⟩
  · obtain ⟨h0, hs⟩ := List.mem_filter.1 he
    obtain ⟨h1, h2, h3⟩ := h.mem e h0
    have hne : e.seq ≠ s := fun e' => by rw [e'] at hs; simp at hs
    exact ⟨h1, by simp [h2, hne], h3⟩
  · simp only [Bool.or_eq_false_iff] at hgi
    obtain ⟨e, he, h1⟩ := h.full i hi hgi.1
    have hne : i ≠ s := of_decide_eq_false hgi.2
    refine ⟨e, List.mem_filter.2 ⟨he, ?_⟩, h1⟩
    rw [decide_eq_false (by omega)]; rfl
theorem Lk.ru (h : Lk left dd gone) {e : En} (he : e ∈ left) : ruB left e = !wtB dd gone e.seq e.seq := by
  have hd := (h.mem e he).2.2
  rw [Bool.eq_iff_iff, ruB_iff h.asc he, Bool.not_eq_true', wtB_iff]
  constructor
  · intro hh i hi hg
    obtain ⟨x, hx, rfl⟩ := h.full i (by have := (h.mem e he).1; omega) hg
    rw [(h.mem x hx).2.2, hd]
    exact hh x hx hi
  · intro hh x hx hlt
    have := hh x.seq hlt (h.mem x hx).2.1
    rw [(h.mem x hx).2.2, hd] at this
    exact this
theorem Lk.find (h : Lk left dd gone) {k : Nat} (hk : k < dd.length) (hg : gone k = false) : ∃ e ∈ left, e.seq = k ∧ left.find? (fun e => decide ((e.seq : Int) = (k : Int))) = some e := by
  obtain ⟨e, he, rfl⟩ := h.full k hk hg
  obtain ⟨i, hi, rfl⟩ := List.getElem_of_mem he
  exact ⟨_, he, rfl, find_at h.asc hi⟩
theorem Lk.nofind (h : Lk left dd gone) {s : Int} (hs : s < 0 ∨ (dd.length : Int) ≤ s ∨ gone s.toNat = true) : left.find? (fun e => decide ((e.seq : Int) = s)) = none :=
  find_no fun e he e' => by
    obtain ⟨h1, h2, _⟩ := h.mem e he
    subst e'
    rcases hs with hs | hs | hs
    · omega
    · omega
    · rw [Int.toNat_natCast, h2] at hs; cases hs
theorem Lk.freeV_ (h : Lk left dd gone) {k : Nat} (hk : k < dd.length) : freeV left (k : Int) = if gone k = true then 4 else if wtB dd gone k k = true then 6 else 0 := by
  cases hg : gone k with
  | true =>
    unfold freeV
    rw [h.nofind (.inr (.inr (by rw [Int.toNat_natCast]; exact hg)))]
    rfl
  | false =>
    obtain ⟨e, he, hs, hf⟩ := h.find hk hg
    unfold freeV
    rw [hf]
    simp only
    rw [h.ru he, hs]
    cases wtB dd gone k k <;> rfl
theorem Lk.freeV_no (h : Lk left dd gone) {s : Int} (hs : s < 0 ∨ (dd.length : Int) ≤ s ∨ gone s.toNat = true) : freeV left s = 4 := by
  unfold freeV; rw [h.nofind hs]
theorem Lk.mayV_ (h : Lk left dd gone) {k : Nat} (hk : k < dd.length) (hg : gone k = false) : mayV left (k : Int) = (!wtB dd gone k k, 0) := by
  obtain ⟨e, he, hs, hf⟩ := h.find hk hg
  unfold mayV
  rw [hf]
  simp only
  rw [h.ru he, hs]
theorem Lk.mayV_no (h : Lk left dd gone) {s : Int} (hs : s < 0 ∨ (dd.length : Int) ≤ s ∨ gone s.toNat = true) : mayV left s = (false, 4) := by
  unfold mayV; rw [h.nofind hs]
/-- the numbers that are left -/
theorem Lk.seqs (h : Lk left dd gone) : left.map (·.seq) = (List.range dd.length).filter fun i => !gone i := by
  have s1 : (left.map (·.seq)).Pairwise (· < ·) := List.pairwise_map.2 h.asc
  have s2 : ((List.range dd.length).filter fun i => !gone i).Pairwise (· < ·) := List.Pairwise.sublist List.filter_sublist List.pairwise_lt_range
  refine (List.Perm.eq_of_pairwise (le := (· < ·)) (fun a b _ _ h1 h2 => absurd h1 (by omega)) s1 s2 ?_)
  refine (List.perm_ext_iff_of_nodup (s1.imp fun h => by omega) (s2.imp fun h => by omega)).2 fun i => ?_
  simp only [List.mem_map, List.mem_filter, List.mem_range, Bool.not_eq_true']
  constructor
  · rintro ⟨e, he, rfl⟩; exact ⟨(h.mem e he).1, (h.mem e he).2.1⟩
  · rintro ⟨h1, h2⟩; exact h.full i h1 h2
theorem Lk.len (h : Lk left dd gone) : left.length = ((List.range dd.length).filter fun i => !gone i).length := by rw [← h.seqs, List.length_map]
theorem Lk.rdy (h : Lk left dd gone) : rdyL left left = (List.range dd.length).filter fun i => !gone i && !wtB dd gone i i := by
  have h1 : rdyL left left = (left.map (·.seq)).filter fun i => !wtB dd gone i i := by
    unfold rdyL
    rw [List.filter_map]
    congr 1
    apply List.filter_congr
    intro e he
    exact h.ru he
  rw [h1, h.seqs, List.filter_filter]
  congr 1
  funext i
  exact Bool.and_comm _ _
end
end Go.Proofs.YtpefdonhacmaoaaGreat

set_option linter.unusedVariables false
set_option linter.unusedSimpArgs false
namespace Go.Proofs.YtpefdonhacmaoaaGreat
open Go.RowKit

/-- a place of a row of one-cell values of one's own is written -/
theorem OR.set_ {w : World} {B : Nat} {t : TypeId} {g c : Nat} {xs : List Value} (h : OR w B t (some ⟨g, 0, none⟩) c xs) {k : Nat} (hk : k < xs.length) (v : Value) : OR (w.setCell ⟨g, k, none⟩ v) B t (some ⟨g, 0, none⟩) c (xs.set k v) := by
  rcases h.2 with ⟨hv, _⟩ | ⟨g', cap', cur, hv, h1, hb, h3, h4, h5, h6⟩
  · cases hv
  · injection hv with e1 _ e3
    injection e1 with e1
    injection e1 with e1 _ _
    subst e1; subst e3
    have hbx : Box w g t cur := hb
    unfold OR
    rw [List.length_set]
    refine ⟨by rw [List.length_set]; omega, .inr ⟨g, c, cur.setIfInBounds k v, rfl, h1, hbx.set k v, h3, h4, by simp [h5], ?_⟩⟩
    rw [Array.toList_setIfInBounds, List.take_set, h6]
theorem OR.frozen_ {w : World} {B : Nat} {t : TypeId} {g c : Nat} {xs : List Value} (h : OR w B t (some ⟨g, 0, none⟩) c xs) (k : Nat) : w.frozen? ⟨g, k, none⟩ = false := by
  rcases h.2 with ⟨hv, _⟩ | ⟨g', cap', cur, hv, h1, hb, _⟩
  · cases hv
  · injection hv with e1 _ e3
    injection e1 with e1
    injection e1 with e1 _ _
    subst e1
    exact Box.frozen (show Box w g t cur from hb) k
end Go.Proofs.YtpefdonhacmaoaaGreat

set_option linter.unusedVariables false
set_option linter.unusedSimpArgs false
namespace Go.Proofs.YtpefdonhacmaoaaGreat
open Go.RowKit

/-- the transactions of a list, plainly -/
def ddOf (ds : List Dl) : List (List Opr) := ds.map (·.d)
theorem ddOf_len (ds : List Dl) : (ddOf ds).length = ds.length := by simp [ddOf]
theorem ddOf_get {ds : List Dl} {i : Nat} (h : i < ds.length) : (ddOf ds).getD i [] = ds[i].d := by simp [ddOf, List.getD_eq_getElem?_getD, h]
theorem ddOf_take {ds : List Dl} {k : Nat} (h : k < ds.length) : ddOf (ds.take (k + 1)) = ddOf (ds.take k) ++ [ds[k].d] := by
  unfold ddOf; rw [List.take_succ_eq_append_getElem h, List.map_append]; rfl
theorem getD_set_ (gl : List Bool) {k : Nat} (hk : k < gl.length) (v : Bool) (i : Nat) : (gl.set k v).getD i false = if i = k then v else gl.getD i false := by
  rw [List.getD_eq_getElem?_getD, List.getElem?_set]
  by_cases e : k = i
  · subst e; simp [hk]
  · rw [if_neg e, if_neg fun e' => e e'.symm, List.getD_eq_getElem?_getD]
end Go.Proofs.YtpefdonhacmaoaaGreat

set_option linter.unusedVariables false
set_option linter.unusedSimpArgs false
namespace Go.Proofs.YtpefdonhacmaoaaGreat
open Go.RowKit Go.WideMaps Go.Maps

theorem OR.ty_ {w : World} {B : Nat} {t : TypeId} {g c : Nat} {xs : List Value} (h : OR w B t (some ⟨g, 0, none⟩) c xs) : Ty w g t := own_ty h rfl
end Go.Proofs.YtpefdonhacmaoaaGreat
