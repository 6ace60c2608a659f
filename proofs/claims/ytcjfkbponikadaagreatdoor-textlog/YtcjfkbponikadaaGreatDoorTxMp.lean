/-
  Partition maps as text, plainly (no program in it).
-/
import Derived.Test.YtcjfkbponikadaaGreatDoorTxOp
import Derived.Test.YtcjfkbponikadaaGreatDoorShPl
set_option linter.unusedVariables false
set_option linter.unusedSimpArgs false
namespace Go.Proofs.YtcjfkbponikadaaGreatDoor
open Go.Lib

/-- the words of the cuts and the owners behind them -/
def wdT : List ByteArray → List Int → List (List UInt8)
  | c :: cs, o :: os => c.data.toList :: itoa o :: wdT cs os
  | _, _ => []
/-- the words of a map -/
def wdM (cs : List ByteArray) : List Int → List (List UInt8)
  | o :: os => itoa o :: wdT cs os
  | [] => []
/-- a map that is written -/
def tM (cs : List ByteArray) (os : List Int) : List UInt8 := join (wdM cs os) [58]
/-- words that are read: first an owner, then a cut, and so on -/
def rdW : Bool → List ByteArray → List Int → List (List UInt8) → Option (List ByteArray × List Int)
  | _, cs, os, [] => some (cs, os)
  | true, cs, os, w :: r => match rdN w with
    | none => none
    | some n => rdW false cs (os ++ [n]) r
  | false, cs, os, w :: r => rdW true (cs ++ [bs w]) os r
/-- a map that is read: the error, the cuts and the owners -/
def rdM (l : List UInt8) : Int × List ByteArray × List Int := match rdW true [] [] (spl 58 l) with
  | none => (9, [], [])
  | some (cs, os) => if chkM cs os = 0 then (0, cs, os) else (chkM cs os, [], [])
theorem rdW_true_nil (cs : List ByteArray) (os : List Int) : rdW true cs os [] = some (cs, os) := rfl
theorem rdW_false_nil (cs : List ByteArray) (os : List Int) : rdW false cs os [] = some (cs, os) := rfl
theorem rdW_wdT : ∀ (cs : List ByteArray) (os : List Int) (ca : List ByteArray) (oa : List Int), cs.length = os.length → (∀ n ∈ os, 0 ≤ n ∧ n ≤ 3) → rdW false ca oa (wdT cs os) = some (ca ++ cs, oa ++ os)
  | [], [], ca, oa, _, _ => by simp [wdT, rdW]
  | [], _ :: _, _, _, h, _ => by simp at h
  | _ :: _, [], _, _, h, _ => by simp at h
  | c :: cs, o :: os, ca, oa, h, ho => by
    have h1 := ho o (by simp)
    rw [wdT, rdW, rdW, rdN_own h1.1 (by omega)]
    simp only
    rw [rdW_wdT cs os _ _ (by simpa using h) (fun n hn => ho n (List.mem_cons_of_mem _ hn)), bs_of]
    simp
theorem okM_one {cs : List ByteArray} {os : List Int} (h : OkM cs os) : ∃ o r, os = o :: r ∧ cs.length = r.length := by
  cases os with
  | nil => have := h.len; simp at this
  | cons o r => exact ⟨o, r, rfl, by have := h.len; simp at this; omega⟩
theorem wdM_read {cs : List ByteArray} {os : List Int} (h : OkM cs os) : rdW true [] [] (wdM cs os) = some (cs, os) := by
  obtain ⟨o, r, rfl, hl⟩ := okM_one h
  have h1 := h.own o (by simp)
  rw [wdM, rdW, rdN_own h1.1 (by omega)]
  simp only
  rw [rdW_wdT cs r _ _ hl (fun n hn => h.own n (List.mem_cons_of_mem _ hn))]
  simp
theorem wdT_not {c : UInt8} (h1 : c.toNat < 97) (h2 : c.toNat ≠ 45) (h3 : c.toNat < 48 ∨ 57 < c.toNat) : ∀ (cs : List ByteArray) (os : List Int), (∀ k ∈ cs, keyB k = true) → ∀ x ∈ wdT cs os, c ∉ x
  | [], _, _, x, hx => by simp [wdT] at hx
  | _ :: _, [], _, x, hx => by simp [wdT] at hx
  | k :: cs, o :: os, hk, x, hx => by
    rw [wdT] at hx
    rcases List.mem_cons.1 hx with rfl | hx
    · exact key_not (hk k (by simp)) h1
    rcases List.mem_cons.1 hx with rfl | hx
    · exact num_not h2 h3
    · exact wdT_not h1 h2 h3 cs os (fun j hj => hk j (List.mem_cons_of_mem _ hj)) x hx
theorem okM_keys {cs : List ByteArray} {os : List Int} (h : OkM cs os) : ∀ k ∈ cs, keyB k = true := fun k hk => ((cutsB_iff.1 h.cuts).1 k hk).1
theorem wdM_not {c : UInt8} (h1 : c.toNat < 97) (h2 : c.toNat ≠ 45) (h3 : c.toNat < 48 ∨ 57 < c.toNat) {cs : List ByteArray} {os : List Int} (h : OkM cs os) : ∀ x ∈ wdM cs os, c ∉ x := by
  obtain ⟨o, r, rfl, hl⟩ := okM_one h
  intro x hx
  rw [wdM] at hx
  rcases List.mem_cons.1 hx with rfl | hx
  · exact num_not h2 h3
  · exact wdT_not h1 h2 h3 cs r (okM_keys h) x hx
theorem wdM_ne {cs : List ByteArray} {os : List Int} (h : OkM cs os) : wdM cs os ≠ [] := by
  obtain ⟨o, r, rfl, hl⟩ := okM_one h
  simp [wdM]
theorem spl_tM {cs : List ByteArray} {os : List Int} (h : OkM cs os) : spl 58 (tM cs os) = wdM cs os := spl_join (wdM_ne h) (wdM_not (by decide) (by decide) (by decide) h)
theorem rdM_tM {cs : List ByteArray} {os : List Int} (h : OkM cs os) : rdM (tM cs os) = (0, cs, os) := by
  rw [rdM, spl_tM h, wdM_read h]
  simp only
  rw [if_pos (chkM_ok.2 h)]
/-- what is read, by how the words alternate -/
theorem rdW_inv : ∀ (ws : List (List UInt8)) (ca : List ByteArray) (oa : List Int) (cs : List ByteArray) (os : List Int), rdW false ca oa ws = some (cs, os) →
    ∃ c' o', cs = ca ++ c' ∧ os = oa ++ o' ∧ (c'.length = o'.length ∧ ws = wdT c' o' ∨ c'.length = o'.length + 1)
  | [], ca, oa, cs, os, h => by
    injection h with h
    injection h with h1 h2
    exact ⟨[], [], by simp [h1], by simp [h2], .inl ⟨rfl, rfl⟩⟩
  | [w], ca, oa, cs, os, h => by
    rw [rdW, rdW_true_nil] at h
    injection h with h
    injection h with h1 h2
    exact ⟨[bs w], [], h1.symm, by simp [h2], .inr rfl⟩
  | w :: v :: ws, ca, oa, cs, os, h => by
    rw [rdW, rdW] at h
    split at h
    · cases h
    · next n hn =>
      obtain ⟨c', o', rfl, rfl, hc⟩ := rdW_inv ws _ _ _ _ h
      refine ⟨bs w :: c', n :: o', by simp, by simp, ?_⟩
      rcases hc with ⟨h1, h2⟩ | h1
      · exact .inl ⟨by simp [h1], by rw [wdT, bs_data, (rdN_some hn).1, h2]⟩
      · exact .inr (by simp [h1])
theorem tM_rdM {l : List UInt8} {cs : List ByteArray} {os : List Int} (h : rdM l = (0, cs, os)) : tM cs os = l ∧ OkM cs os := by
  unfold rdM at h
  split at h
  · cases h
  · next cs' os' e =>
    split at h
    · next hc =>
      injection h with _ h
      injection h with h1 h2
      subst h1; subst h2
      have ho := chkM_ok.1 hc
      refine ⟨?_, ho⟩
      cases hs : spl 58 l with
      | nil => exact absurd hs (spl_ne _ _)
      | cons w ws =>
        rw [hs, rdW] at e
        split at e
        · cases e
        · next n hn =>
          obtain ⟨c', o', rfl, rfl, hcc⟩ := rdW_inv ws _ _ _ _ e
          have hl := ho.len
          simp at hl
          rcases hcc with ⟨h1, h2⟩ | h1
          · rw [tM]
            simp only [List.nil_append, List.singleton_append, wdM]
            rw [← h2, (rdN_some hn).1, ← hs, join_spl]
          · omega
    · next hc => injection h with h _; exact absurd h hc
end Go.Proofs.YtcjfkbponikadaaGreatDoor
