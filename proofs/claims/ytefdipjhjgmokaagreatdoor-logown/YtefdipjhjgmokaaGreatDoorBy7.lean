/-
  Plain maps, plainly (no program in it).
  A cut and a gift, plainly (no program in it).
  shard.place: what it answers.
  The box of a map.
  Boxes of maps (no body of the program in it).
-/
import Derived.Test.YtefdipjhjgmokaaGreatDoorBy1
import Derived.Test.YtefdipjhjgmokaaGreatDoorBy5
import Derived.Test.YtefdipjhjgmokaaGreatDoorBy2
set_option linter.unusedVariables false
set_option linter.unusedSimpArgs false
namespace Go.Proofs.YtefdipjhjgmokaaGreatDoor

/-- the plain map of the first k cuts -/
def plN (cs : List ByteArray) (os : List Int) : Nat → List ByteArray × List Int
  | 0 => ([], [os.getD 0 0])
  | k + 1 => if os.getD (k + 1) 0 = os.getD k 0 then plN cs os k else ((plN cs os k).1 ++ [cs.getD k ByteArray.empty], (plN cs os k).2 ++ [os.getD (k + 1) 0])
section
variable {cs : List ByteArray} {os : List Int}
theorem plN_len (cs : List ByteArray) (os : List Int) (k : Nat) : (plN cs os k).2.length = (plN cs os k).1.length + 1 := by
  induction k with
  | zero => rfl
  | succ k ih => simp only [plN]; split <;> simp [ih]
theorem plN_last (cs : List ByteArray) (os : List Int) (k : Nat) : (plN cs os k).2.getD (plN cs os k).1.length 0 = os.getD k 0 := by
  induction k with
  | zero => rfl
  | succ k ih =>
    simp only [plN]
    split
    · rename_i h; rw [ih, h]
    · simp only [List.length_append, List.length_singleton, List.getD_eq_getElem?_getD]
      rw [List.getElem?_append_right (by rw [plN_len]; exact Nat.le_refl _), plN_len]
      simp
theorem take_snoc_ {k : Nat} (h : k < cs.length) : cs.take (k + 1) = cs.take k ++ [cs.getD k ByteArray.empty] := by
  rw [List.take_succ_eq_append_getElem h]
  simp [List.getD_eq_getElem?_getD, h]
theorem plN_sub (os : List Int) {k : Nat} (hk : k ≤ cs.length) : (plN cs os k).1.Sublist (cs.take k) := by
  induction k with
  | zero => simp [plN]
  | succ k ih =>
    rw [take_snoc_ (by omega)]
    simp only [plN]
    split
    · exact (ih (by omega)).trans (List.sublist_append_left _ _)
    · exact (ih (by omega)).append (List.Sublist.refl _)
theorem plN_own {k : Nat} (hk : k < os.length) (h : ∀ n ∈ os, 0 ≤ n ∧ n ≤ 3) : ∀ n ∈ (plN cs os k).2, 0 ≤ n ∧ n ≤ 3 := by
  have hm : ∀ i, i < os.length → os.getD i 0 ∈ os := fun i hi => by rw [List.getD_eq_getElem?_getD, List.getElem?_eq_getElem hi]; exact List.getElem_mem hi
  induction k with
  | zero => intro n hn; simp [plN] at hn; subst hn; have := h _ (hm 0 hk); simpa [List.getD_eq_getElem?_getD] using this
  | succ k ih =>
    simp only [plN]
    split
    · exact ih (by omega)
    · intro n hn
      rcases List.mem_append.1 hn with hn | hn
      · exact ih (by omega) n hn
      · rw [List.mem_singleton.1 hn]; exact h _ (hm _ hk)
/-- no neighbours have one owner -/
theorem plN_adj (cs : List ByteArray) (os : List Int) (k : Nat) : ∀ i, i + 1 < (plN cs os k).2.length → (plN cs os k).2.getD (i + 1) 0 ≠ (plN cs os k).2.getD i 0 := by
  induction k with
  | zero => intro i hi; simp [plN] at hi
  | succ k ih =>
    simp only [plN]
    split
    · exact ih
    · rename_i h
      intro i hi
      simp only [List.length_append, List.length_singleton] at hi
      have hl := plN_len cs os k
      by_cases hlt : i + 1 < (plN cs os k).2.length
      · simp only [List.getD_eq_getElem?_getD]
        rw [List.getElem?_append_left hlt, List.getElem?_append_left (by omega)]
        have := ih i hlt
        simpa only [List.getD_eq_getElem?_getD] using this
      · have e : i + 1 = (plN cs os k).2.length := by omega
        have h1 := plN_last cs os k
        have e2 : i = (plN cs os k).1.length := by omega
        simp only [List.getD_eq_getElem?_getD] at h1 h ⊢
        rw [List.getElem?_append_right (by omega), List.getElem?_append_left (by omega), e, Nat.sub_self, e2, h1]
        simpa using h
theorem plN_valid (h : OkM cs os) : OkM (plN cs os cs.length).1 (plN cs os cs.length).2 := by
  have hs := plN_sub (cs := cs) os (Nat.le_refl _)
  rw [List.take_length] at hs
  obtain ⟨h1, h2⟩ := cutsB_iff.1 h.cuts
  exact ⟨Nat.le_trans hs.length_le h.few, plN_len _ _ _, cutsB_iff.2 ⟨fun k hk => h1 k (hs.subset hk), h2.sublist hs⟩, plN_own (by rw [h.len]; omega) h.own⟩
/-- a plain map's plain map is itself -/
theorem plN_same {k : Nat} (hk : k ≤ cs.length) (hl : os.length = cs.length + 1) (h : ∀ i, i < k → os.getD (i + 1) 0 ≠ os.getD i 0) : plN cs os k = (cs.take k, os.take (k + 1)) := by
  induction k with
  | zero =>
    have : 0 < os.length := by omega
    cases os with
    | nil => simp at this
    | cons x r => simp [plN]
  | succ k ih =>
    simp only [plN]
    rw [if_neg (h k (by omega)), ih (by omega) (fun i hi => h i (by omega)), take_snoc_ (by omega)]
    have e : os.take (k + 1 + 1) = os.take (k + 1) ++ [os.getD (k + 1) 0] := by
      rw [List.take_succ_eq_append_getElem (show k + 1 < os.length by omega)]
      simp [List.getD_eq_getElem?_getD, show k + 1 < os.length by omega]
    rw [e]
theorem plN_twice (h : OkM cs os) : plN (plN cs os cs.length).1 (plN cs os cs.length).2 (plN cs os cs.length).1.length = plN cs os cs.length := by
  have hl := plN_len cs os cs.length
  rw [plN_same (Nat.le_refl _) hl (fun i hi => plN_adj cs os cs.length i (by omega)), List.take_length, ← hl, List.take_length]
theorem atC_snoc (l : List ByteArray) (c key : ByteArray) : atC (l ++ [c]) key = if atC l key = l.length ∧ leB c key = true then l.length + 1 else atC l key := by
  unfold atC
  rw [List.takeWhile_append]
  by_cases h : (l.takeWhile fun k => leB k key).length = l.length
  · rw [if_pos h]
    cases hc : leB c key <;> simp [List.takeWhile_cons, hc, h]
  · rw [if_neg h, if_neg (fun e => h e.1)]
theorem atC_all {l : List ByteArray} {key : ByteArray} (h : ∀ k ∈ l, leB k key = true) : atC l key = l.length := by
  unfold atC
  induction l with
  | nil => rfl
  | cons c r ih => simp [List.takeWhile_cons, h c (by simp), ih fun k hk => h k (by simp [hk])]
/-- plain, all keys are whose they were -/
theorem plN_whose (hs : cs.Pairwise (fun a b => ltB a b = true)) (key : ByteArray) {k : Nat} (hk : k ≤ cs.length) : whV (plN cs os k).1 (plN cs os k).2 key = os.getD (atC (cs.take k) key) 0 := by
  induction k with
  | zero => simp [plN, whV, atC]
  | succ k ih =>
    have ih := ih (by omega)
    have hkl : k < cs.length := by omega
    have hck : cs.getD k ByteArray.empty = cs[k] := by simp [List.getD_eq_getElem?_getD, hkl]
    have hsub := plN_sub (cs := cs) os (show k ≤ cs.length by omega)
    rw [take_snoc_ hkl, atC_snoc, hck]
    have htl : (cs.take k).length = k := by rw [List.length_take]; omega
    cases hc : leB cs[k] key with
    | true =>
      have hall : ∀ x ∈ cs.take k, leB x key = true := fun x hx => by
        obtain ⟨i, hi, e⟩ := List.getElem_of_mem hx
        rw [List.getElem_take] at e
        rw [← e]
        exact leB_trans_ (List.pairwise_iff_getElem.1 hs i k (by omega) hkl (by omega)) hc
      have ha := atC_all hall
      rw [if_pos ⟨ha, rfl⟩, htl]
      rw [ha, htl] at ih
      simp only [plN]
      split
      · rename_i h; rw [ih, h]
      · unfold whV
        rw [hck, atC_snoc, if_pos ⟨atC_all fun x hx => hall x (hsub.subset hx), hc⟩]
        simp only [List.getD_eq_getElem?_getD]
        rw [List.getElem?_append_right (by rw [plN_len]; exact Nat.le_refl _), plN_len]
        simp
    | false =>
      rw [if_neg (by simp)]
      simp only [plN]
      split
      · exact ih
      · unfold whV at *
        rw [hck, atC_snoc, if_neg (by simp [hc])]
        rw [← ih]
        simp only [List.getD_eq_getElem?_getD]
        rw [List.getElem?_append_left (by rw [plN_len]; have := atC_le (plN cs os k).1 key; omega)]
end
end Go.Proofs.YtefdipjhjgmokaaGreatDoor

set_option linter.unusedVariables false
set_option linter.unusedSimpArgs false
namespace Go.Proofs.YtefdipjhjgmokaaGreatDoor

/-- the cuts with one more -/
def cutC (cs : List ByteArray) (key : ByteArray) : List ByteArray := cs.take (atC cs key) ++ ([key] ++ cs.drop (atC cs key))
/-- the owners with one twice -/
def cutO (cs : List ByteArray) (os : List Int) (key : ByteArray) : List Int := os.take (atC cs key + 1) ++ os.drop (atC cs key)
section
variable {cs : List ByteArray} {os : List Int} {key : ByteArray}
theorem cutC_len : (cutC cs key).length = cs.length + 1 := by
  have := atC_le cs key
  simp only [cutC, List.length_append, List.length_take, List.length_singleton, List.length_drop]; omega
theorem cutO_len (h : os.length = cs.length + 1) : (cutO cs os key).length = os.length + 1 := by
  have := atC_le cs key
  simp only [cutO, List.length_append, List.length_take, List.length_drop]; omega
theorem cutC_low {i : Nat} (h : i < atC cs key) : (cutC cs key).getD i ByteArray.empty = cs.getD i ByteArray.empty := by
  have := atC_le cs key
  simp only [cutC, List.getD_eq_getElem?_getD]
  rw [List.getElem?_append_left (by rw [List.length_take]; omega), List.getElem?_take, if_pos h]
theorem cutC_high {i : Nat} (h : atC cs key ≤ i) : (cutC cs key).getD (i + 1) ByteArray.empty = cs.getD i ByteArray.empty := by
  have := atC_le cs key
  simp only [cutC, List.getD_eq_getElem?_getD]
  have hl : (cs.take (atC cs key)).length = atC cs key := by rw [List.length_take]; omega
  rw [List.getElem?_append_right (by omega), hl, List.getElem?_append_right (by simp only [List.length_singleton]; omega), List.getElem?_drop, List.length_singleton]
  congr 2
  omega
theorem cutO_low (ho : os.length = cs.length + 1) {i : Nat} (h : i ≤ atC cs key) : (cutO cs os key).getD i 0 = os.getD i 0 := by
  have := atC_le cs key
  simp only [cutO, List.getD_eq_getElem?_getD]
  rw [List.getElem?_append_left (by rw [List.length_take]; omega), List.getElem?_take, if_pos (by omega)]
theorem cutO_high (ho : os.length = cs.length + 1) {i : Nat} (h : atC cs key ≤ i) : (cutO cs os key).getD (i + 1) 0 = os.getD i 0 := by
  have := atC_le cs key
  simp only [cutO, List.getD_eq_getElem?_getD]
  have hl : (os.take (atC cs key + 1)).length = atC cs key + 1 := by rw [List.length_take]; omega
  rw [List.getElem?_append_right (by omega), hl, List.getElem?_drop]
  congr 2
  omega
theorem plN_succ (cs : List ByteArray) (os : List Int) (k : Nat) : plN cs os (k + 1) = if os.getD (k + 1) 0 = os.getD k 0 then plN cs os k else ((plN cs os k).1 ++ [cs.getD k ByteArray.empty], (plN cs os k).2 ++ [os.getD (k + 1) 0]) := rfl
theorem plN_cut_low (ho : os.length = cs.length + 1) {k : Nat} (hk : k ≤ atC cs key) : plN (cutC cs key) (cutO cs os key) k = plN cs os k := by
  induction k with
  | zero => simp only [plN]; rw [cutO_low ho (by omega)]
  | succ k ih => simp only [plN]; rw [cutO_low ho hk, cutO_low ho (show k ≤ _ by omega), cutC_low (by omega), ih (by omega)]
/-- a cut is not plain -/
theorem plN_cut (ho : os.length = cs.length + 1) {k : Nat} (hk : atC cs key ≤ k) : plN (cutC cs key) (cutO cs os key) (k + 1) = plN cs os k := by
  induction k with
  | zero =>
    have h0 : atC cs key = 0 := by omega
    rw [plN_succ, cutO_high ho (by omega), cutO_low ho (by omega), if_pos rfl, plN_cut_low ho (by omega)]
  | succ k ih =>
    rcases Nat.lt_or_ge k (atC cs key) with h | h
    · have h0 : atC cs key = k + 1 := by omega
      rw [plN_succ, cutO_high ho (by omega), cutO_low ho (by omega), if_pos rfl, plN_cut_low ho (by omega)]
    · rw [plN_succ, cutO_high ho (by omega), cutO_high ho (by omega), cutC_high (by omega), ih h]
      rfl
theorem plN_cut_all (ho : os.length = cs.length + 1) : plN (cutC cs key) (cutO cs os key) (cutC cs key).length = plN cs os cs.length := by
  rw [cutC_len]; exact plN_cut ho (atC_le _ _)
theorem cut_ok (h : OkM cs os) (hk : keyB key = true) (hn : key ∉ cs) (h12 : cs.length < 12) : OkM (cutC cs key) (cutO cs os key) := by
  have hle := atC_le cs key
  obtain ⟨h1, h2⟩ := cutsB_iff.1 h.cuts
  have hlo : ∀ x ∈ cs.take (atC cs key), ltB x key = true := fun x hx => by
    obtain ⟨i, hi, e⟩ := List.getElem_of_mem hx
    rw [List.length_take] at hi
    rw [List.getElem_take] at e
    obtain ⟨hil, hl⟩ := atC_below (show i < atC cs key by omega)
    rw [e] at hl
    cases hx2 : ltB x key with
    | true => rfl
    | false =>
      have := ltB_total hx2 (leB_iff.1 hl)
      subst this
      exact absurd (List.mem_of_mem_take hx) hn
  have hhi : ∀ x ∈ cs.drop (atC cs key), ltB key x = true := fun x hx => by
    obtain ⟨i, hi, e⟩ := List.getElem_of_mem hx
    rw [List.length_drop] at hi
    rw [List.getElem_drop] at e
    have := (atC_iff h2 (key := key) (show atC cs key + i < cs.length by omega))
    cases hx2 : leB cs[atC cs key + i] key with
    | true => exact absurd (this.1 hx2) (by omega)
    | false => rw [← e]; exact leB_no.1 hx2
  refine ⟨by rw [cutC_len]; omega, by rw [cutC_len, cutO_len h.len, h.len], cutsB_iff.2 ⟨fun k hk' => ?_, ?_⟩, fun n hn' => ?_⟩
  · rcases List.mem_append.1 hk' with hx | hx
    · exact h1 k (List.mem_of_mem_take hx)
    · rcases List.mem_cons.1 hx with rfl | hx
      · exact ⟨hk, keyB_ne_empty hk⟩
      · exact h1 k (List.mem_of_mem_drop hx)
  · refine List.pairwise_append.2 ⟨h2.sublist (List.take_sublist _ _), List.pairwise_cons.2 ⟨fun x hx => hhi x hx, h2.sublist (List.drop_sublist _ _)⟩, fun x hx y hy => ?_⟩
    rcases List.mem_cons.1 hy with rfl | hy
    · exact hlo x hx
    · exact ltB_trans (hlo x hx) (hhi y hy)
  · rcases List.mem_append.1 hn' with hx | hx
    · exact h.own n (List.mem_of_mem_take hx)
    · exact h.own n (List.mem_of_mem_drop hx)
theorem whV_plN (h : OkM cs os) (k : ByteArray) : whV (plN cs os cs.length).1 (plN cs os cs.length).2 k = whV cs os k := by
  rw [plN_whose (cutsB_iff.1 h.cuts).2 k (Nat.le_refl _), List.take_length]; rfl
/-- a cut changes nobody's keys -/
theorem whV_cut (h : OkM cs os) (hk : keyB key = true) (hn : key ∉ cs) (h12 : cs.length < 12) (k : ByteArray) : whV (cutC cs key) (cutO cs os key) k = whV cs os k := by
  rw [← whV_plN (cut_ok h hk hn h12) k, plN_cut_all h.len, whV_plN h k]
theorem whV_mem (h : OkM cs os) (k : ByteArray) : whV cs os k ∈ os := by
  have := atC_le cs k
  have hl := h.len
  unfold whV
  rw [List.getD_eq_getElem?_getD, List.getElem?_eq_getElem (show atC cs k < os.length by omega)]
  exact List.getElem_mem _
theorem give_ok (h : OkM cs os) {i : Nat} {n : Int} (h0 : 0 ≤ n) (h3 : n ≤ 3) : OkM cs (os.set i n) :=
  ⟨h.few, by rw [List.length_set]; exact h.len, h.cuts, fun x hx => by
    rcases List.mem_or_eq_of_mem_set hx with hx | rfl
    · exact h.own x hx
    · exact ⟨h0, h3⟩⟩
theorem whV_give_same (h : OkM cs os) {i : Nat} {n : Int} {k : ByteArray} (hi : atC cs k = i) : whV cs (os.set i n) k = n := by
  have := atC_le cs k
  have hl := h.len
  unfold whV
  rw [hi, List.getD_eq_getElem?_getD, List.getElem?_set, if_pos rfl, if_pos (by omega)]
  rfl
theorem whV_give_other {i : Nat} {n : Int} {k : ByteArray} (hi : atC cs k ≠ i) : whV cs (os.set i n) k = whV cs os k := by
  unfold whV
  rw [List.getD_eq_getElem?_getD, List.getElem?_set, if_neg (fun e => hi e.symm), List.getD_eq_getElem?_getD]
theorem give_back {i : Nat} {n : Int} (hi : i < os.length) : (os.set i n).set i (os.getD i 0) = os := by
  rw [List.set_set, List.getD_eq_getElem?_getD, List.getElem?_eq_getElem hi]
  exact List.set_getElem_self hi
theorem give_cat {i : Nat} {n : Int} (hi : i < os.length) : os.take i ++ ([n] ++ os.drop (i + 1)) = os.set i n := by
  rw [List.set_eq_take_append_cons_drop, if_pos hi]; rfl
/-- the first cut that is not below a key -/
theorem atC_lt (hn : key ∉ cs) : (cs.takeWhile fun c => ltB c key).length = atC cs key := by
  unfold atC
  congr 1
  have : ∀ l : List ByteArray, (∀ c ∈ l, c ≠ key) → (l.takeWhile fun c => ltB c key) = l.takeWhile fun c => leB c key := fun l => by
    induction l with
    | nil => intro _; rfl
    | cons c r ih =>
      intro hl
      have hc : ltB c key = leB c key := by
        cases hx : leB c key with
        | false => exact ltB_asymm (leB_no.1 hx)
        | true =>
          cases hy : ltB c key with
          | true => rfl
          | false => exact absurd (ltB_total hy (leB_iff.1 hx)) (hl c (by simp))
      simp only [List.takeWhile_cons, hc, ih fun x hx => hl x (by simp [hx])]
  exact this cs fun c hc e => hn (e ▸ hc)
theorem atC_of {i : Nat} (hi : i ≤ cs.length) (h1 : ∀ j (hj : j < cs.length), j < i → leB cs[j] key = true) (h2 : ∀ hj : i < cs.length, leB cs[i] key = false) : atC cs key = i := by
  have h3 := atC_le cs key
  rcases Nat.lt_trichotomy (atC cs key) i with h | h | h
  · have h4 := h1 _ (show atC cs key < cs.length by omega) h
    rw [atC_next (show atC cs key < cs.length by omega)] at h4
    cases h4
  · exact h
  · obtain ⟨h5, h6⟩ := atC_below h
    rw [h2 h5] at h6
    cases h6
end
end Go.Proofs.YtefdipjhjgmokaaGreatDoor

set_option linter.unusedVariables false
set_option linter.unusedSimpArgs false
namespace Go.Proofs.YtefdipjhjgmokaaGreatDoor
open Go.RowKit

set_option maxHeartbeats 400000 in
theorem place1_any (b : Nat) (key c : ByteArray) (w : World) (hc : w.cell? ⟨b, 0, none⟩ = some (.string key)) :
    Calls Tryz.prog 255 #[.string c, .pointer (some ⟨b, 0, none⟩)] w fun e w' => e = .returned (.bool (ltB key c)) ∧ w = w' := by
  go_enter Tryz.func255, Tryz.ntmps255
  go_wp2_with fail
  go_ret
  exact ⟨rfl, rfl⟩

set_option maxHeartbeats 400000 in
set_option maxRecDepth 100000 in
theorem placeIdx_any (b : Nat) (A : Option Addr) (c : Nat) (cs : List ByteArray) (key : ByteArray) (w : World) (hc : w.cell? ⟨b, 0, none⟩ = some (.string key)) (h1 : VS w A (cs.map Value.string)) (l1 : cs.length < 4611686018427387904) :
    Calls Tryz.prog 254 #[.slice A cs.length c, .func (.func 255) #[] #[.pointer (some ⟨b, 0, none⟩)]] w fun e w' => (∃ r : Int, e = .returned (.int .i64 r) ∧ (r = (atC cs key : Int) ∧ atC cs key < cs.length ∨ r = -1 ∧ atC cs key = cs.length)) ∧ w = w' := by
  go_enter Tryz.func254, Tryz.ntmps254
  go_wp2_with fail
  go_loopw [8] (fun i wr => ∃ k : Nat, k ≤ cs.length ∧ i = .int .i64 k ∧ (∀ j (hj : j < cs.length), j < k → leB cs[j] key = true) ∧ w = wr) (fun i _ => cs.length - (intOf i).toNat)
  case atStart => exact ⟨0, Nat.zero_le _, rfl, fun j hj h => by omega, rfl⟩
  case round =>
    obtain ⟨k, hk, rfl, hall, rfl⟩ := hrel
    have HN := hideP hall
    clear hall
    by_cases hlt : k < cs.length
    · obtain ⟨b1, o1, rfl, hbl, q1⟩ := h1 k (.string cs[k]) (by simp [hlt])
      have HT := hideP (fun (h : ltB key cs[k] = true) => show atC cs key = k from atC_of hk HN.out (fun _ => leB_no.2 h))
      have HM := hideP (fun (h : ltB key cs[k] = false) => show ∀ j (hj : j < cs.length), j < k + 1 → leB cs[j] key = true from fun j hj hlt => by
        rcases Nat.lt_or_eq_of_le (Nat.le_of_lt_succ hlt) with hl | rfl
        · exact HN.out j hj hl
        · exact leB_iff.2 h)
      clear h1
      generalize cs[k] = s at q1 HT HM
      have g1 : (0 : Int) ≤ (k : Int) := by omega
      have g2 : (k : Int) < (cs.length : Int) := by omega
      go_wp2_with fail
      refine (place1_any b key s _ hc).mono ?_
      rintro e w1 ⟨rfl, rfl⟩
      cases hin : ltB key s
      · have HI := hideP hin
        clear hin
        go_wp2_with fail
        go_roundw
        case rel => exact ⟨k + 1, by omega, by go_num, HM.out HI.out, trivial⟩
        case measure => simp [intOf]; omega
      · have HI := hideP hin
        clear hin
        go_wp2_with fail
        go_ret
        exact ⟨⟨k, rfl, .inl (by have := HT.out HI.out; omega)⟩, rfl⟩
    · go_wp2_with fail
      go_ret
      exact ⟨⟨-1, rfl, .inr ⟨rfl, atC_of (Nat.le_refl _) (fun j hj h => HN.out j hj (by omega)) (fun h => absurd h (by omega))⟩⟩, rfl⟩

set_option maxHeartbeats 400000 in
set_option maxRecDepth 100000 in
theorem place_any (m : Mp) (key : ByteArray) (w : World) (hm : MS w m) (l1 : m.cs.length ≤ 12) :
    Calls Tryz.prog 226 #[.agg #[.slice m.A m.cs.length m.ca, .slice m.O m.os.length m.co], .string key] w fun e w' => e = .returned (.int .i64 (atC m.cs key : Nat)) ∧ Below w.heap.size w w' := by
  have b0 := ((Below.refl w.heap.size w).alloc (Nat.le_refl _) (.cells #[.slice m.A m.cs.length m.ca, .slice m.O m.os.length m.co] 34)).alloc (by simp) (.cells #[.string key] 9)
  have x0 := (Box.new w 34 #[.slice m.A m.cs.length m.ca, .slice m.O m.os.length m.co]).alloc (.cells #[.string key] 9)
  have x1 := Box.new (w.alloc (.cells #[.slice m.A m.cs.length m.ca, .slice m.O m.os.length m.co] 34)) 9 #[.string key]
  have hm1 := hm.below b0
  obtain ⟨A, ca, cs, O, co, os⟩ := m
  simp only [World.size_alloc] at hm1 b0 x0 x1 l1 ⊢
  have c0 := x0.cell 0 (v := .slice A cs.length ca) rfl
  have c1 := x1.cell 0 (v := .string key) rfl
  clear hm x0 x1
  go_enter Tryz.func226, Tryz.ntmps226
  go_wp2_with fail
  generalize (w.alloc _).alloc _ = w1 at b0 hm1 c0 c1 ⊢
  have HB := hideP b0
  clear b0
  generalize w.heap.size = g at c0 c1 ⊢
  refine (placeIdx_any (g + 1) A ca cs key _ c1 hm1.cuts (by omega)).mono ?_
  rintro e w2 ⟨⟨r, rfl, hr⟩, rfl⟩
  rcases hr with ⟨rfl, hr⟩ | ⟨rfl, hr⟩
  · have g1 : ¬ ((atC cs key : Nat) : Int) < 0 := by omega
    clear hr
    generalize hA : atC cs key = a at g1 ⊢
    have HA := hideP hA
    clear hA
    go_wp2_with fail
    go_ret
    exact ⟨ret_int (by rw [← HA.out]), HB.out⟩
  · have HR := hideP hr
    clear hr
    go_wp2_with fail
    go_ret
    exact ⟨ret_int (by rw [HR.out]), HB.out⟩

end Go.Proofs.YtefdipjhjgmokaaGreatDoor

set_option linter.unusedVariables false
set_option linter.unusedSimpArgs false
namespace Go.Proofs.YtefdipjhjgmokaaGreatDoor
open Go.RowKit

/-- while a function of a map runs: its box and what it reads as -/
structure MH (w : World) (g : Nat) (m : Mp) (wr : World) : Prop where
  x0 : Box wr g 34 #[.slice m.A m.cs.length m.ca, .slice m.O m.os.length m.co]
  ms : MS wr m
  be : Below w.heap.size w wr
theorem MH.below {w wr w' : World} {g : Nat} {m : Mp} (h : MH w g m wr) (hb : Below wr.heap.size wr w') : MH w g m w' := ⟨h.x0.below hb, h.ms.below hb, h.be.trans (hb.mono h.be.size)⟩
theorem MH.c {w wr : World} {g : Nat} {m : Mp} (h : MH w g m wr) : wr.cell? ⟨g, 0, none⟩ = some (.slice m.A m.cs.length m.ca) ∧ wr.cell? ⟨g, 1, none⟩ = some (.slice m.O m.os.length m.co) := ⟨h.x0.cell 0 rfl, h.x0.cell 1 rfl⟩
theorem MH.new {w : World} {m : Mp} (hm : MS w m) : MH w w.heap.size m (w.alloc (.cells #[.slice m.A m.cs.length m.ca, .slice m.O m.os.length m.co] 34)) :=
  ⟨Box.new _ _ _, hm.below ((Below.refl _ _).alloc (Nat.le_refl _) _), (Below.refl _ _).alloc (Nat.le_refl _) _⟩
end Go.Proofs.YtefdipjhjgmokaaGreatDoor

set_option linter.unusedVariables false
set_option linter.unusedSimpArgs false
namespace Go.Proofs.YtefdipjhjgmokaaGreatDoor
open Go.RowKit

theorem MH.mk_ {w w2 : World} {m : Mp} (hs : MS w2 m) (hb : Below w.heap.size w w2) : MH w w2.heap.size m (w2.alloc (.cells #[.slice m.A m.cs.length m.ca, .slice m.O m.os.length m.co] 34)) :=
  ⟨Box.new _ _ _, hs.below ((Below.refl _ _).alloc (Nat.le_refl _) _), hb.alloc hb.size _⟩
theorem MH.alloc {w wr : World} {g : Nat} {m : Mp} {o : Obj} (h : MH w g m wr) : MH w g m (wr.alloc o) := h.below ((Below.refl _ _).alloc (Nat.le_refl _) _)
theorem MH.drew {w wr : World} {g : Nat} {m : Mp} (h : MH w g m wr) : MH w g m wr.drew := h.below (Below.refl _ _).drew
/-- a map of the call's own in a box -/
structure MX (w : World) (g : Nat) (m : Mp) (wr : World) : Prop where
  x0 : Box wr g 34 #[.slice m.A m.cs.length m.ca, .slice m.O m.os.length m.co]
  mo : MO wr w.heap.size m
  be : Below w.heap.size w wr
section
variable {w wr w' : World} {g gx : Nat} {m n : Mp}
theorem MX.below (h : MX w g m wr) (hb : Below wr.heap.size wr w') : MX w g m w' := ⟨h.x0.below hb, h.mo.below hb, h.be.trans (hb.mono h.be.size)⟩
theorem MX.alloc {o : Obj} (h : MX w g m wr) : MX w g m (wr.alloc o) := h.below ((Below.refl _ _).alloc (Nat.le_refl _) _)
theorem MX.drew (h : MX w g m wr) : MX w g m wr.drew := h.below (Below.refl _ _).drew
theorem MX.ms (h : MX w g m wr) : MS wr m := h.mo.ms
theorem MX.c (h : MX w g m wr) : wr.cell? ⟨g, 0, none⟩ = some (.slice m.A m.cs.length m.ca) ∧ wr.cell? ⟨g, 1, none⟩ = some (.slice m.O m.os.length m.co) := ⟨h.x0.cell 0 rfl, h.x0.cell 1 rfl⟩
theorem MX.mk_ (hs : MO wr w.heap.size m) (hb : Below w.heap.size w wr) : MX w wr.heap.size m (wr.alloc (.cells #[.slice m.A m.cs.length m.ca, .slice m.O m.os.length m.co] 34)) :=
  ⟨Box.new _ _ _, hs.below ((Below.refl _ _).alloc (Nat.le_refl _) _), hb.alloc hb.size _⟩
/-- a box that was made ahead is filled -/
theorem MX.fill (hn : MO wr w.heap.size n) (hb : Below w.heap.size w wr) {a b : Value} (hx : Box wr gx 34 #[a, b]) (hl : w.heap.size ≤ gx) : MX w gx n ((wr.setCell ⟨gx, 0, none⟩ (.slice n.A n.cs.length n.ca)).setCell ⟨gx, 1, none⟩ (.slice n.O n.os.length n.co)) :=
  have r := res_set hx hl hn hb (.slice n.A n.cs.length n.ca) (.slice n.O n.os.length n.co)
  ⟨by simpa using (hx.set 0 (.slice n.A n.cs.length n.ca)).set 1 (.slice n.O n.os.length n.co), r.1, r.2⟩
theorem MX.other (h : MX w g m wr) {a b : Value} (hx : Box wr gx 34 #[a, b]) (hl : w.heap.size ≤ gx) (hne : gx ≠ g) (x y : Value) : MX w g m ((wr.setCell ⟨gx, 0, none⟩ x).setCell ⟨gx, 1, none⟩ y) :=
  have r := res_set hx hl h.mo h.be x y
  ⟨(h.x0.other (a := ⟨gx, 0, none⟩) hne x).other (a := ⟨gx, 1, none⟩) hne y, r.1, r.2⟩
end
theorem VS.of_box {w : World} {g : Nat} {t : TypeId} {cs : Array Value} (h : Box w g t cs) : VS w (some ⟨g, 0, none⟩) cs.toList := fun i v hv => ⟨g, 0, rfl, h.lt, by rw [Nat.zero_add]; exact h.cell i (by simpa using hv)⟩
theorem OkM.l2 {cs : List ByteArray} {os : List Int} (h : OkM cs os) : os.length ≤ 9223372036854775807 := by have := h.few; have := h.len; omega
end Go.Proofs.YtefdipjhjgmokaaGreatDoor
