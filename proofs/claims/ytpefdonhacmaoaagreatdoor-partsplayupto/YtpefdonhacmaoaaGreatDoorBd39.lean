/-
  slices.Index and slices.Contains at ints.
  Owners one by one; pairs that change their owner, one by one (no program in it).
  (*parts.Parts).Part.
-/
import Derived.Test.YtpefdonhacmaoaaGreatDoorBd38
import Derived.Test.YtpefdonhacmaoaaGreatDoorBd3
import Derived.Deep.RegionHeld3
import Derived.Deep.QuietTactic
import Derived.BigQuiet
import Derived.Test.YtpefdonhacmaoaaGreatDoorBd21
import Derived.Test.YtpefdonhacmaoaaGreatDoorBd7
import Derived.Test.YtpefdonhacmaoaaGreatDoorBd9
import Derived.Test.YtpefdonhacmaoaaGreatDoorBd12
set_option linter.unusedVariables false
set_option linter.unusedSimpArgs false
namespace Go.Proofs.YtpefdonhacmaoaaGreatDoor
open Go.RowKit

set_option maxHeartbeats 400000 in
set_option maxRecDepth 100000 in
theorem iindex_any (A : Option Addr) (c : Nat) (l : List Int) (x : Int) (w : World) (hA : IS w A l) (hl : l.length < 4611686018427387904) :
    Calls Tryz.prog 46 #[.slice A l.length c, .int .i64 x] w fun e w' => ∃ r : Int, e = .returned (.int .i64 r) ∧ decide (0 ≤ r) = inI x l ∧ w = w' := by
  go_enter Tryz.func46, Tryz.ntmps46
  go_wp2_with fail
  go_loop [8] (fun i => ∃ k : Nat, k ≤ l.length ∧ i = .int .i64 k ∧ x ∉ l.take k) (fun i => l.length - (intOf i).toNat)
  case atStart => exact ⟨0, Nat.zero_le _, rfl, by simp⟩
  case round =>
    obtain ⟨k, hk, rfl, hnot⟩ := hrel
    have HN := hideP hnot
    clear hnot
    by_cases hlt : k < l.length
    · obtain ⟨b, o, rfl, hbl, q1⟩ := hA k l[k] (List.getElem?_eq_getElem hlt)
      have hmem := hideP (List.getElem_mem hlt)
      have hnx := hideP (fun (h2 : x ≠ l[k]) => show x ∉ l.take (k + 1) from by
        rw [List.take_succ_eq_append_getElem hlt]
        intro hm
        rcases List.mem_append.1 hm with hm | hm
        · exact HN.out hm
        · exact h2 (by simpa using hm))
      clear hA
      generalize l[k] = s at q1 hmem hnx
      by_cases he : x = s
      · have d1 : (x == s) = true := by simp [he]
        have HE := hideP he
        clear he
        go_wp2_with fail
        go_ret
        exact ⟨k, rfl, by have := hmem.out; rw [← HE.out] at this; rw [inI_iff.2 this]; simp, rfl⟩
      · have d1 : (x == s) = false := by simp [he]
        have HE := hideP he
        clear he
        go_wp2_with fail
        go_round
        case rel => exact ⟨k + 1, by omega, by go_num, hnx.out HE.out⟩
        case measure => simp [intOf]; omega
    · go_wp2_with fail
      go_ret
      exact ⟨-1, rfl, by have := HN.out; rw [List.take_of_length_le (by omega)] at this; rw [inI_no.2 this]; rfl, rfl⟩

set_option maxHeartbeats 400000 in
set_option maxRecDepth 100000 in
theorem icontains_any (A : Option Addr) (c : Nat) (l : List Int) (x : Int) (w : World) (hA : IS w A l) (hl : l.length < 4611686018427387904) :
    Calls Tryz.prog 22 #[.slice A l.length c, .int .i64 x] w fun e w' => e = .returned (.bool (inI x l)) ∧ w = w' := by
  go_enter Tryz.func22, Tryz.ntmps22
  go_wp2_with fail
  refine (iindex_any A c l x _ hA hl).mono ?_
  rintro e w' ⟨r, rfl, hr, rfl⟩
  have HR := hideP hr
  clear hr
  go_wp2_with fail
  go_ret
  exact ⟨ret_bool HR.out, rfl⟩

end Go.Proofs.YtpefdonhacmaoaaGreatDoor

set_option linter.unusedVariables false
set_option linter.unusedSimpArgs false
namespace Go.Proofs.YtpefdonhacmaoaaGreatDoor
open Go.RowKit

theorem movN_snoc (cs : List ByteArray) (os : List Int) (cs' : List ByteArray) (os' : List Int) (l : List Pr) (p : Pr) : movN cs os cs' os' (l ++ [p]) = movN cs os cs' os' l + (if whV cs os p.1 = whV cs' os' p.1 then 0 else 1) := by
  unfold movN
  rw [List.filter_append, List.length_append]
  by_cases e : whV cs os p.1 = whV cs' os' p.1 <;> simp [e]
/-- those of the first numbers that are in a list -/
def allV (ow : List Int) (j : Nat) : List Int := ((List.range j).map fun (i : Nat) => (i : Int)).filter fun i => decide (i ∈ ow)
theorem allV_succ (ow : List Int) (j : Nat) : allV ow (j + 1) = allV ow j ++ (if (j : Int) ∈ ow then [(j : Int)] else []) := by
  unfold allV
  rw [List.range_succ, List.map_append, List.filter_append]
  congr 1
  by_cases e : (j : Int) ∈ ow <;> simp [e]
theorem allV_mem {ow : List Int} {j : Nat} {x : Int} : x ∈ allV ow j ↔ 0 ≤ x ∧ x < j ∧ x ∈ ow := by
  unfold allV
  rw [List.mem_filter, List.mem_map]
  constructor
  · rintro ⟨⟨i, hi, rfl⟩, h⟩
    have := List.mem_range.1 hi
    exact ⟨by omega, by omega, by simpa using h⟩
  · rintro ⟨h1, h2, h3⟩
    exact ⟨⟨x.toNat, List.mem_range.2 (by omega), by omega⟩, by simpa using h3⟩
theorem allV_sorted (ow : List Int) (j : Nat) : (allV ow j).Pairwise (fun a b => a < b) := by
  unfold allV
  refine List.Pairwise.filter _ ?_
  rw [List.pairwise_map]
  exact List.pairwise_lt_range.imp fun h => by omega
theorem allV_len (ow : List Int) (j : Nat) : (allV ow j).length ≤ j := by
  unfold allV
  refine Nat.le_trans (List.length_filter_le _ _) ?_
  simp
theorem allV_who {ow : List Int} (h : ∀ x ∈ ow, 0 ≤ x ∧ x ≤ 3) : allV ow 4 = owS ow := inc_ext (allV_sorted ow 4) (owS_sorted ow) fun k => by
  rw [allV_mem, owS_mem]
  exact ⟨fun h => h.2.2, fun hk => ⟨(h k hk).1, by have := (h k hk).2; omega, hk⟩⟩
/-- while the names are gone through -/
def allK (ow : List Int) (j k : Nat) : List Int := allV ow j ++ (if (j : Int) ∈ ow.take k then [(j : Int)] else [])
theorem allK_zero (ow : List Int) (j : Nat) : allK ow j 0 = allV ow j := by simp [allK]
theorem allK_all {ow : List Int} {j k : Nat} (h : ow.length ≤ k) : allK ow j k = allV ow (j + 1) := by
  unfold allK; rw [List.take_of_length_le h, allV_succ]
theorem allK_len (ow : List Int) (j k : Nat) : (allK ow j k).length ≤ j + 1 := by
  unfold allK
  have := allV_len ow j
  rw [List.length_append]
  split
  · simp; omega
  · simp; omega
theorem allK_in {ow : List Int} {j k : Nat} : (j : Int) ∈ allK ow j k ↔ (j : Int) ∈ ow.take k := by
  unfold allK
  rw [List.mem_append, allV_mem]
  constructor
  · rintro (h | h)
    · omega
    · by_cases e : (j : Int) ∈ ow.take k
      · exact e
      · rw [if_neg e] at h; cases h
  · intro h; right; rw [if_pos h]; simp
theorem allK_no {ow : List Int} {j k : Nat} (hk : k < ow.length) (h : ow[k] ≠ (j : Int)) : allK ow j (k + 1) = allK ow j k := by
  unfold allK
  rw [List.take_succ_eq_append_getElem hk]
  congr 1
  simp only [List.mem_append, List.mem_singleton]
  by_cases e : (j : Int) ∈ ow.take k
  · rw [if_pos (.inl e), if_pos e]
  · rw [if_neg (by rintro (h' | h'); exact e h'; exact h h'.symm), if_neg e]
theorem allK_had {ow : List Int} {j k : Nat} (hk : k < ow.length) (h : (j : Int) ∈ allK ow j k) : allK ow j (k + 1) = allK ow j k := by
  have e := allK_in.1 h
  unfold allK
  rw [List.take_succ_eq_append_getElem hk]
  rw [if_pos (List.mem_append.2 (.inl e)), if_pos e]
theorem allK_new {ow : List Int} {j k : Nat} (hk : k < ow.length) (h : ow[k] = (j : Int)) (hn : (j : Int) ∉ allK ow j k) : allK ow j (k + 1) = allK ow j k ++ [(j : Int)] := by
  have e : (j : Int) ∉ ow.take k := fun e => hn (allK_in.2 e)
  unfold allK
  rw [List.take_succ_eq_append_getElem hk]
  rw [if_pos (List.mem_append.2 (.inr (by simp [h]))), if_neg e, List.append_nil]
end Go.Proofs.YtpefdonhacmaoaaGreatDoor

set_option linter.unusedVariables false
set_option linter.unusedSimpArgs false
namespace Go.Proofs.YtpefdonhacmaoaaGreatDoor
open Go.RowKit

set_option maxHeartbeats 400000 in
set_option maxRecDepth 100000 in
theorem ppart_ok (B g : Nat) (m : Mp) (l : List Pr) (q : Dv) (k : Nat) (w : World) (h : PB w B g m l q) (hk : k < 4) :
    Calls Tryz.prog 27 #[.pointer (some ⟨g, 0, none⟩), .int .i64 k] w fun e w' => ∃ A c, e = .returned (.tuple #[.slice A (ptL m.cs m.os (k : Int) l).length c, .int .i64 0]) ∧ OV w' w.heap.size A c (ptL m.cs m.os (k : Int) l) ∧ Below w.heap.size w w' := by
  have p0 : w.cell? ⟨g, 2 + k, none⟩ = some (.slice (q.A k) (ptL m.cs m.os (k : Int) l).length (q.c k)) := h.p hk
  have hsm := h.ok.small
  have hp : (ptL m.cs m.os (k : Int) l).length ≤ l.length := List.length_filter_le _ _
  have HC : Hid (Calls Tryz.prog 49 #[.slice (some ⟨w.heap.size, 0, none⟩) 1 1] (w.alloc (.cells #[.slice (q.A k) (ptL m.cs m.os (k : Int) l).length (q.c k)] 26)) fun e w' => ∃ A c, e = .returned (.slice A (ptL m.cs m.os (k : Int) l).length c) ∧ OV w' w.heap.size A c (ptL m.cs m.os (k : Int) l) ∧ Below w.heap.size w w') := hideP (by
    have hb := (Below.refl w.heap.size w).alloc (Nat.le_refl _) (.cells #[.slice (q.A k) (ptL m.cs m.os (k : Int) l).length (q.c k)] 26)
    refine (concat1 w w.heap.size rfl (q.A k) _ (q.c k) _ rfl (h.own k hk).sv.ps (by omega)).mono ?_
    rintro e w1 ⟨v, rfl, hrow, hb1⟩
    obtain ⟨A1, c1, rfl, ho⟩ := OV.of_own hrow
    exact ⟨A1, c1, rfl, ho.mono hb.size, hb.trans (hb1.mono hb.size)⟩)
  have g0 : (0 : Int) ≤ (k : Int) := by omega
  have g1 : (k : Int) < 4 := by omega
  generalize ptL m.cs m.os (k : Int) l = pt at p0 HC
  clear h hsm hp
  go_enter Tryz.func27, Tryz.ntmps27
  go_wp2_with fail
  refine HC.out.mono ?_
  rintro e w1 ⟨A1, c1, rfl, ho, hb⟩
  go_wp2_with fail
  go_ret2
  exact ⟨A1, c1, rfl, ho, hb⟩
set_option maxHeartbeats 400000 in
set_option maxRecDepth 100000 in
theorem ppart_bad (g : Nat) (i : Int) (w : World) (hk : i < 0 ∨ 4 ≤ i) :
    Calls Tryz.prog 27 #[.pointer (some ⟨g, 0, none⟩), .int .i64 i] w fun e w' => e = .returned (.tuple #[.slice none 0 0, .int .i64 1]) ∧ w = w' := by
  by_cases h : i < 0
  · go_enter Tryz.func27, Tryz.ntmps27
    go_wp2_with fail
    go_ret2
    exact ⟨rfl, rfl⟩
  · have h4 : 4 ≤ i := by omega
    go_enter Tryz.func27, Tryz.ntmps27
    go_wp2_with fail
    go_ret2
    exact ⟨rfl, rfl⟩
end Go.Proofs.YtpefdonhacmaoaaGreatDoor
