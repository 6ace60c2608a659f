/-
  Stores as sorted lists, and what Get, Put, Scan and Join make of them (no program in it).
  Parts of a store, plainly (no program in it).
  Lists of pairs in memory: their cells, rows of the call's own, append (no body of the program in it).
-/
import Derived.Test.YtefdipjhjgmokaaGreatDoorBy1
import Derived.Test.YtefdipjhjgmokaaGreatDoorBy7
import Derived.Test.YtefdipjhjgmokaaGreatDoorProg
import Derived.Maps.AppendAt
import Derived.Deep.AppendLies
import Derived.Lib.AppendZerosOnto
import Derived.OwnWalk
set_option linter.unusedVariables false
set_option linter.unusedSimpArgs false
namespace Go.Proofs.YtefdipjhjgmokaaGreatDoor
open Go.RowKit

/-- a valid store -/
structure Ok (l : List Pr) : Prop where
  srt : l.Pairwise (fun p q => ltB p.1 q.1 = true)
  key : ∀ p ∈ l, keyB p.1 = true
  val : ∀ p ∈ l, valB p.2 = true
  nz : ∀ p ∈ l, p.2 ≠ 0
theorem Ok.nil : Ok [] := ⟨List.Pairwise.nil, by simp, by simp, by simp⟩
theorem key_pos {s : ByteArray} (h : keyB s = true) : ltB ByteArray.empty s = true := by
  rw [ltB_iff]
  have h1 : 1 ≤ s.size := by simp [keyB] at h; exact h.1.1
  have : by8 s ≠ [] := by intro e; have := congrArg List.length e; simp [by8] at this; simp [this] at h1
  have e0 : by8 ByteArray.empty = [] := rfl
  rw [e0]
  cases hs : by8 s with
  | nil => exact absurd hs this
  | cons a r => simp
theorem chk_iff (bf : ByteArray) (l : List Pr) : chk bf l = 0 ↔ (Ok l ∧ ∀ p ∈ l, ltB bf p.1 = true) := by
  induction l generalizing bf with
  | nil => simp [chk, Ok.nil]
  | cons p r ih =>
    constructor
    · intro h
      simp only [chk] at h
      cases h1 : keyB p.1 with
      | false => simp [h1] at h
      | true =>
        cases h2 : valB p.2 with
        | false => simp [h1, h2] at h
        | true =>
          by_cases h3 : p.2 = 0
          · simp [h1, h2, h3] at h
          · cases h4 : leB p.1 bf with
            | true => simp [h1, h2, h3, h4] at h
            | false =>
              simp [h1, h2, h3, h4] at h
              obtain ⟨ok, hall⟩ := (ih p.1).1 h
              have hb := leB_no.1 h4
              refine ⟨⟨List.pairwise_cons.2 ⟨hall, ok.srt⟩, ?_, ?_, ?_⟩, ?_⟩
              · intro q hq; rcases List.mem_cons.1 hq with rfl | hq; exact h1; exact ok.key q hq
              · intro q hq; rcases List.mem_cons.1 hq with rfl | hq; exact h2; exact ok.val q hq
              · intro q hq; rcases List.mem_cons.1 hq with rfl | hq; exact h3; exact ok.nz q hq
              · intro q hq; rcases List.mem_cons.1 hq with rfl | hq; exact hb; exact ltB_trans hb (hall q hq)
    · rintro ⟨ok, hall⟩
      have h1 := ok.key p (by simp)
      have h2 := ok.val p (by simp)
      have h3 := ok.nz p (by simp)
      have h4 := leB_no.2 (hall p (by simp))
      simp only [chk, h1, h2, h3, h4]
      have hs := List.pairwise_cons.1 ok.srt
      have := (ih p.1).2 ⟨⟨hs.2, fun q hq => ok.key q (by simp [hq]), fun q hq => ok.val q (by simp [hq]), fun q hq => ok.nz q (by simp [hq])⟩, hs.1⟩
      simpa using this
theorem chk_ok {l : List Pr} : chk ByteArray.empty l = 0 ↔ Ok l :=
  ⟨fun h => ((chk_iff _ _).1 h).1, fun h => (chk_iff _ _).2 ⟨h, fun p hp => key_pos (h.key p hp)⟩⟩

/-- the value of a key -/
def valOf : List Pr → ByteArray → Int
  | [], _ => 0
  | p :: r, k => if cmpB p.1 k = 0 then p.2 else valOf r k
theorem valOf_nil (k : ByteArray) : valOf [] k = 0 := rfl
theorem valOf_none {l : List Pr} {k : ByteArray} (h : ∀ p ∈ l, p.1 ≠ k) : valOf l k = 0 := by
  induction l with
  | nil => rfl
  | cons p r ih =>
    have : cmpB p.1 k ≠ 0 := fun e => h p (by simp) (cmpB_zero.1 e)
    simp [valOf, this]
    exact ih fun q hq => h q (by simp [hq])
theorem valOf_mem {l : List Pr} (hs : l.Pairwise (fun p q => ltB p.1 q.1 = true)) {p : Pr} (h : p ∈ l) : valOf l p.1 = p.2 := by
  induction l with
  | nil => cases h
  | cons q r ih =>
    have hs' := List.pairwise_cons.1 hs
    rcases List.mem_cons.1 h with rfl | h
    · simp [valOf, cmpB_zero]
    · have : cmpB q.1 p.1 ≠ 0 := fun e => ltB_ne (hs'.1 p h) (cmpB_zero.1 e)
      simp [valOf, this]
      exact ih hs'.2 h
theorem valOf_ne {l : List Pr} {k : ByteArray} (h : valOf l k ≠ 0) : ∃ p ∈ l, p.1 = k := by
  by_cases hh : ∃ p ∈ l, p.1 = k
  · exact hh
  · exact absurd (valOf_none fun p hp e => hh ⟨p, hp, e⟩) h
theorem valOf_append {l m : List Pr} {k : ByteArray} (h : ∀ p ∈ l, p.1 ≠ k) : valOf (l ++ m) k = valOf m k := by
  induction l with
  | nil => rfl
  | cons p r ih =>
    have : cmpB p.1 k ≠ 0 := fun e => h p (by simp) (cmpB_zero.1 e)
    simp [valOf, this]
    exact ih fun q hq => h q (by simp [hq])
/-- two valid stores with the same values are one -/
theorem Ok.ext {l m : List Pr} (hl : Ok l) (hm : Ok m) (h : ∀ k, valOf l k = valOf m k) : l = m := by
  have tail : ∀ {p : Pr} {r : List Pr}, Ok (p :: r) → Ok r := fun h => ⟨(List.pairwise_cons.1 h.srt).2, fun q hq => h.key q (by simp [hq]), fun q hq => h.val q (by simp [hq]), fun q hq => h.nz q (by simp [hq])⟩
  have later : ∀ {p q : Pr} {r : List Pr}, Ok (p :: r) → ltB q.1 p.1 = true → valOf (p :: r) q.1 = 0 := by
    intro p q r h hlt
    refine valOf_none fun x hx e => ?_
    rcases List.mem_cons.1 hx with rfl | hx
    · exact ltB_ne hlt e.symm
    · exact ltB_ne (ltB_trans hlt ((List.pairwise_cons.1 h.srt).1 x hx)) e.symm
  induction l generalizing m with
  | nil =>
    cases m with
    | nil => rfl
    | cons q r => have := h q.1; rw [valOf_mem hm.srt (by simp)] at this; exact absurd this.symm (hm.nz q (by simp))
  | cons p r ih =>
    cases m with
    | nil => have := h p.1; rw [valOf_mem hl.srt (by simp)] at this; exact absurd this (hl.nz p (by simp))
    | cons q s =>
      have hkey : p.1 = q.1 := by
        refine ltB_total ?_ ?_
        · cases hc : ltB p.1 q.1
          · rfl
          · have h1 := h p.1
            rw [valOf_mem hl.srt (by simp), later hm hc] at h1
            exact absurd h1 (hl.nz p (by simp))
        · cases hc : ltB q.1 p.1
          · rfl
          · have h1 := h q.1
            rw [valOf_mem hm.srt (by simp), later hl hc] at h1
            exact absurd h1.symm (hm.nz q (by simp))
      have hval : p.2 = q.2 := by
        have h1 := h p.1
        rw [valOf_mem hl.srt (by simp), hkey, valOf_mem hm.srt (by simp)] at h1
        exact h1
      have hpq : p = q := Prod.ext hkey hval
      subst hpq
      congr 1
      refine ih (tail hl) (tail hm) fun k => ?_
      by_cases hk : p.1 = k
      · subst hk
        rw [valOf_none fun x hx e => ltB_ne ((List.pairwise_cons.1 hl.srt).1 x hx) e.symm, valOf_none fun x hx e => ltB_ne ((List.pairwise_cons.1 hm.srt).1 x hx) e.symm]
      · have := h k
        have hc : cmpB p.1 k ≠ 0 := fun e => hk (cmpB_zero.1 e)
        simpa [valOf, hc] using this

/-- where a key belongs -/
def posOf (l : List Pr) (key : ByteArray) : Nat := (l.takeWhile fun p => ltB p.1 key).length
theorem posOf_at {l : List Pr} (hs : l.Pairwise (fun p q => ltB p.1 q.1 = true)) (key : ByteArray) : At l key (posOf l key) := by
  induction l with
  | nil => exact ⟨by simp [posOf], fun j h => by simp at h, fun j h => by simp at h⟩
  | cons p r ih =>
    have hs' := List.pairwise_cons.1 hs
    have ih := ih hs'.2
    cases hc : ltB p.1 key
    · have h0 : posOf (p :: r) key = 0 := by simp [posOf, List.takeWhile_cons, hc]
      rw [h0]
      refine ⟨Nat.zero_le _, fun j _ hj => by omega, fun j hj _ => ?_⟩
      cases j with
      | zero => exact hc
      | succ j =>
        simp only [List.getElem_cons_succ]
        cases hd : ltB (r[j]'(by simpa using hj)).1 key
        · rfl
        · rw [ltB_trans (hs'.1 _ (List.getElem_mem _)) hd] at hc; cases hc
    · have h0 : posOf (p :: r) key = posOf r key + 1 := by simp [posOf, List.takeWhile_cons, hc]
      rw [h0]
      refine ⟨by have := ih.le; simp; omega, fun j hj hlt => ?_, fun j hj hle => ?_⟩
      · cases j with
        | zero => exact hc
        | succ j => simp only [List.getElem_cons_succ]; exact ih.lo j (by simpa using hj) (by omega)
      · cases j with
        | zero => omega
        | succ j => simp only [List.getElem_cons_succ]; exact ih.hi j (by simpa using hj) (by omega)
/-- what Put makes -/
def putL (l : List Pr) (key : ByteArray) (n : Int) (q : Nat) : List Pr :=
  l.take q ++ ((if n = 0 then [] else [(key, n)]) ++ l.drop (if fnd l key q = true then q + 1 else q))

section
variable {l : List Pr} {key : ByteArray} {q : Nat}
theorem At.ahead (h : At l key q) {p : Pr} (hp : p ∈ l.take q) : ltB p.1 key = true := by
  obtain ⟨j, hj, rfl⟩ := List.mem_iff_getElem.1 hp
  simp only [List.getElem_take]
  simp at hj
  exact h.lo j (by omega) (by omega)
theorem At.behind (h : At l key q) {p : Pr} (hp : p ∈ l.drop q) : ltB p.1 key = false := by
  obtain ⟨j, hj, rfl⟩ := List.mem_iff_getElem.1 hp
  simp only [List.getElem_drop]
  simp at hj
  exact h.hi (q + j) (by omega) (by omega)
theorem fnd_iff (h : q < l.length) : fnd l key q = true ↔ (l[q]).1 = key := by
  simp [fnd, h, cmpB_zero]
theorem fnd_lt (h : fnd l key q = true) : q < l.length := by
  rcases Nat.lt_or_ge q l.length with hlt | hge
  · exact hlt
  · simp [fnd, hge] at h
/-- what lies behind the key's place is greater -/
theorem At.beyond (h : At l key q) (hs : l.Pairwise (fun p q => ltB p.1 q.1 = true)) {p : Pr} (hp : p ∈ l.drop (if fnd l key q = true then q + 1 else q)) : ltB key p.1 = true := by
  by_cases hf : fnd l key q = true
  · rw [if_pos hf] at hp
    have hq := fnd_lt hf
    have hk := (fnd_iff hq).1 hf
    obtain ⟨j, hj, rfl⟩ := List.mem_iff_getElem.1 hp
    simp only [List.getElem_drop]
    simp at hj
    have := List.pairwise_iff_getElem.1 hs q (q + 1 + j) hq (by omega) (by omega)
    rw [hk] at this
    exact this
  · rw [if_neg hf] at hp
    have hb := h.behind hp
    cases hc : ltB key p.1
    · have he := ltB_total hb hc
      obtain ⟨j, hj, hpj⟩ := List.mem_iff_getElem.1 hp
      simp only [List.getElem_drop] at hpj
      simp at hj
      cases j with
      | zero =>
        have hq : q < l.length := by omega
        simp only [Nat.add_zero] at hpj
        exact absurd ((fnd_iff hq).2 (by rw [hpj]; exact he)) hf
      | succ j =>
        have h1 := List.pairwise_iff_getElem.1 hs q (q + (j + 1)) (by omega) (by omega) (by omega)
        rw [hpj, he] at h1
        have h2 := h.hi q (by omega) (by omega)
        rw [h1] at h2; cases h2
    · rfl
theorem valOf_at (h : At l key q) (hs : l.Pairwise (fun p q => ltB p.1 q.1 = true)) : valOf l key = if hf : fnd l key q = true then (l[q]'(fnd_lt hf)).2 else 0 := by
  by_cases hf : fnd l key q = true
  · rw [dif_pos hf]
    have hq := fnd_lt hf
    have hk := (fnd_iff hq).1 hf
    have := valOf_mem hs (List.getElem_mem hq)
    rw [hk] at this
    exact this
  · rw [dif_neg hf]
    refine valOf_none fun p hp e => ?_
    rw [← List.take_append_drop q l] at hp
    rcases List.mem_append.1 hp with hp | hp
    · exact ltB_ne (h.ahead hp) e
    · have := h.beyond hs (p := p) (by rw [if_neg hf]; exact hp)
      exact ltB_ne this e.symm
theorem putL_ok (hl : Ok l) (h : At l key q) (hk : keyB key = true) {n : Int} (hn : valB n = true) : Ok (putL l key n q) ∧ ∀ k, valOf (putL l key n q) k = if k = key then n else valOf l k := by
  have sub1 : (l.take q).Sublist l := List.take_sublist _ _
  have sub2 : (l.drop (if fnd l key q = true then q + 1 else q)).Sublist l := List.drop_sublist _ _
  have hm : ∀ p ∈ putL l key n q, p ∈ l ∨ (n ≠ 0 ∧ p = (key, n)) := by
    intro p hp
    unfold putL at hp
    rcases List.mem_append.1 hp with hp | hp
    · exact .inl (sub1.subset hp)
    · rcases List.mem_append.1 hp with hp | hp
      · by_cases h0 : n = 0
        · simp [h0] at hp
        · simp [h0] at hp; exact .inr ⟨h0, hp⟩
      · exact .inl (sub2.subset hp)
  have hsrt : (putL l key n q).Pairwise (fun p q => ltB p.1 q.1 = true) := by
    unfold putL
    rw [List.pairwise_append, List.pairwise_append]
    refine ⟨hl.srt.sublist sub1, ⟨?_, hl.srt.sublist sub2, ?_⟩, ?_⟩
    · by_cases h0 : n = 0 <;> simp [h0]
    · intro a ha b hb
      by_cases h0 : n = 0
      · simp [h0] at ha
      · simp [h0] at ha; subst ha; exact h.beyond hl.srt hb
    · intro a ha b hb
      rcases List.mem_append.1 hb with hb | hb
      · by_cases h0 : n = 0
        · simp [h0] at hb
        · simp [h0] at hb; subst hb; exact h.ahead ha
      · exact ltB_trans (h.ahead ha) (h.beyond hl.srt hb)
  refine ⟨⟨hsrt, ?_, ?_, ?_⟩, fun k => ?_⟩
  · intro p hp; rcases hm p hp with hp | ⟨_, rfl⟩; exact hl.key p hp; exact hk
  · intro p hp; rcases hm p hp with hp | ⟨_, rfl⟩; exact hl.val p hp; exact hn
  · intro p hp; rcases hm p hp with hp | ⟨h0, rfl⟩; exact hl.nz p hp; exact h0
  · by_cases hkk : k = key
    · subst hkk
      rw [if_pos rfl]
      by_cases h0 : n = 0
      · rw [h0]
        refine valOf_none fun p hp e => ?_
        unfold putL at hp
        simp only [if_pos h0, List.nil_append] at hp
        rcases List.mem_append.1 hp with hp | hp
        · exact ltB_ne (h.ahead hp) e
        · exact ltB_ne (h.beyond hl.srt hp) e.symm
      · have hin : (k, n) ∈ putL l k n q := by unfold putL; simp [h0]
        exact valOf_mem hsrt hin
    · rw [if_neg hkk]
      by_cases hv : ∃ p ∈ l, p.1 = k
      · obtain ⟨p, hp, rfl⟩ := hv
        rw [valOf_mem hl.srt hp]
        refine valOf_mem hsrt ?_
        have hp' : p ∈ l.take q ++ l.drop q := by rw [List.take_append_drop]; exact hp
        unfold putL
        rcases List.mem_append.1 hp' with hp1 | hp1
        · simp [hp1]
        · by_cases hf : fnd l key q = true
          · rw [if_pos hf]
            have hq := fnd_lt hf
            rw [List.drop_eq_getElem_cons hq] at hp1
            rcases List.mem_cons.1 hp1 with rfl | hp1
            · exact absurd ((fnd_iff hq).1 hf) hkk
            · simp [hp1]
          · rw [if_neg hf]; simp [hp1]
      · rw [valOf_none fun p hp e => hv ⟨p, hp, e⟩]
        refine valOf_none fun p hp e => ?_
        rcases hm p hp with hp | ⟨_, rfl⟩
        · exact hv ⟨p, hp, e⟩
        · exact hkk e.symm
end
end Go.Proofs.YtefdipjhjgmokaaGreatDoor

set_option linter.unusedVariables false
set_option linter.unusedSimpArgs false
namespace Go.Proofs.YtefdipjhjgmokaaGreatDoor

/-- the pairs whose keys belong to an owner -/
def ptL (cs : List ByteArray) (os : List Int) (n : Int) (l : List Pr) : List Pr := l.filter fun p => decide (whV cs os p.1 = n)
/-- the pairs whose keys belong to an owner below a number -/
def upL (cs : List ByteArray) (os : List Int) (n : Int) (l : List Pr) : List Pr := l.filter fun p => decide (whV cs os p.1 < n)
theorem Ok.filter {l : List Pr} (h : Ok l) (f : Pr → Bool) : Ok (l.filter f) :=
  ⟨h.srt.sublist List.filter_sublist, fun p hp => h.key p ((List.mem_filter.1 hp).1), fun p hp => h.val p ((List.mem_filter.1 hp).1), fun p hp => h.nz p ((List.mem_filter.1 hp).1)⟩
section
variable {cs : List ByteArray} {os : List Int} {l : List Pr}
theorem ptL_ok (h : Ok l) (n : Int) : Ok (ptL cs os n l) := h.filter _
theorem upL_ok (h : Ok l) (n : Int) : Ok (upL cs os n l) := h.filter _
theorem ptL_snoc (n : Int) (p : Pr) : ptL cs os n (l ++ [p]) = ptL cs os n l ++ (if whV cs os p.1 = n then [p] else []) := by
  unfold ptL
  rw [List.filter_append]
  congr 1
  by_cases e : whV cs os p.1 = n <;> simp [e]
theorem upL_zero (h : OkM cs os) : upL cs os 0 l = [] := by
  unfold upL
  rw [List.filter_eq_nil_iff]
  intro p _
  have := h.own _ (whV_mem h p.1)
  simp; omega
theorem upL_all (h : OkM cs os) : upL cs os 4 l = l := by
  unfold upL
  rw [List.filter_eq_self]
  intro p _
  have := h.own _ (whV_mem h p.1)
  simp; omega
theorem upL_len (n : Int) : (upL cs os (n + 1) l).length = (upL cs os n l).length + (ptL cs os n l).length := by
  unfold upL ptL
  induction l with
  | nil => rfl
  | cons p r ih =>
    simp only [List.filter_cons]
    by_cases h1 : whV cs os p.1 < n
    · rw [if_pos (by simp; omega), if_pos (by simpa using h1), if_neg (by simp; omega)]; simp [ih]; omega
    · by_cases h2 : whV cs os p.1 = n
      · rw [if_pos (by simp; omega), if_neg (by simpa using h1), if_pos (by simpa using h2)]; simp [ih]; omega
      · rw [if_neg (by simp; omega), if_neg (by simpa using h1), if_neg (by simpa using h2)]; exact ih
theorem valOf_filter (hs : l.Pairwise (fun p q => ltB p.1 q.1 = true)) (f : ByteArray → Bool) (k : ByteArray) : valOf (l.filter fun p => f p.1) k = if f k = true then valOf l k else 0 := by
  by_cases hk : f k = true
  · rw [if_pos hk]
    by_cases he : ∃ p ∈ l, p.1 = k
    · obtain ⟨p, hp, rfl⟩ := he
      rw [valOf_mem hs hp, valOf_mem (hs.sublist List.filter_sublist) (List.mem_filter.2 ⟨hp, hk⟩)]
    · rw [valOf_none fun p hp e => he ⟨p, hp, e⟩, valOf_none fun p hp e => he ⟨p, (List.mem_filter.1 hp).1, e⟩]
  · rw [if_neg hk]
    exact valOf_none fun p hp e => hk (e ▸ (List.mem_filter.1 hp).2)
theorem up_apart (n : Int) : ∀ p ∈ upL cs os n l, ∀ q ∈ ptL cs os n l, p.1 ≠ q.1 := fun p hp q hq e => by
  have h1 := (List.mem_filter.1 hp).2
  have h2 := (List.mem_filter.1 hq).2
  rw [e] at h1
  simp at h1 h2
  omega
theorem up_mem (n : Int) (p : Pr) : p ∈ upL cs os (n + 1) l ↔ p ∈ upL cs os n l ∨ p ∈ ptL cs os n l := by
  simp only [upL, ptL, List.mem_filter, decide_eq_true_eq]
  constructor
  · rintro ⟨h1, h2⟩
    by_cases h3 : whV cs os p.1 = n
    · exact .inr ⟨h1, h3⟩
    · exact .inl ⟨h1, by omega⟩
  · rintro (⟨h1, h2⟩ | ⟨h1, h2⟩)
    · exact ⟨h1, by omega⟩
    · exact ⟨h1, by omega⟩
end
/-- two valid stores with the same pairs are one -/
theorem Ok.one_ {l m : List Pr} (hl : Ok l) (hm : Ok m) (h : ∀ p, p ∈ l ↔ p ∈ m) : l = m := by
  refine hl.ext hm fun k => ?_
  by_cases he : ∃ p ∈ l, p.1 = k
  · obtain ⟨p, hp, rfl⟩ := he
    rw [valOf_mem hl.srt hp, valOf_mem hm.srt ((h p).1 hp)]
  · rw [valOf_none fun p hp e => he ⟨p, hp, e⟩, valOf_none fun p hp e => he ⟨p, (h p).2 hp, e⟩]
end Go.Proofs.YtefdipjhjgmokaaGreatDoor

set_option linter.unusedVariables false
set_option linter.unusedSimpArgs false
namespace Go.Proofs.YtefdipjhjgmokaaGreatDoor
open Go.RowKit

/-- the cells of a list of pairs -/
def cellsOf : List Pr → List Value
  | [] => []
  | p :: r => .string p.1 :: .int .i64 p.2 :: cellsOf r
theorem cellsOf_length (l : List Pr) : (cellsOf l).length = l.length * 2 := by
  induction l with
  | nil => rfl
  | cons p r ih => simp [cellsOf, ih]; omega
theorem cellsOf_append (l m : List Pr) : cellsOf (l ++ m) = cellsOf l ++ cellsOf m := by
  induction l with
  | nil => rfl
  | cons p r ih => simp [cellsOf, ih]
theorem cellsOf_get (l : List Pr) (i : Nat) (p : Pr) (h : l[i]? = some p) : (cellsOf l)[i * 2]? = some (.string p.1) ∧ (cellsOf l)[i * 2 + 1]? = some (.int .i64 p.2) := by
  induction l generalizing i with
  | nil => simp at h
  | cons q r ih =>
    cases i with
    | zero => simp at h; subst h; simp [cellsOf]
    | succ i => simp at h; have := ih i h; rw [show (i + 1) * 2 = i * 2 + 1 + 1 by omega]; simpa [cellsOf] using this
theorem cellsOf_at (l : List Pr) (j : Nat) (u : Value) (h : (cellsOf l)[j]? = some u) : ∃ i p, l[i]? = some p ∧ (j = i * 2 ∧ u = .string p.1 ∨ j = i * 2 + 1 ∧ u = .int .i64 p.2) := by
  induction l generalizing j with
  | nil => simp [cellsOf] at h
  | cons q r ih =>
    match j with
    | 0 => simp [cellsOf] at h; exact ⟨0, q, rfl, .inl ⟨rfl, h.symm⟩⟩
    | 1 => simp [cellsOf] at h; exact ⟨0, q, rfl, .inr ⟨rfl, h.symm⟩⟩
    | j + 2 =>
      simp [cellsOf] at h
      obtain ⟨i, p, hp, hh⟩ := ih j h
      refine ⟨i + 1, p, by simpa using hp, ?_⟩
      rcases hh with ⟨e, hu⟩ | ⟨e, hu⟩
      · exact .inl ⟨by omega, hu⟩
      · exact .inr ⟨by omega, hu⟩
theorem cellsOf_one (l : List Pr) : ∀ u ∈ cellsOf l, u.oneCell' = true := by
  intro u hu
  obtain ⟨j, hj⟩ := List.mem_iff_getElem?.1 hu
  obtain ⟨i, p, _, h⟩ := cellsOf_at l j u hj
  rcases h with ⟨_, rfl⟩ | ⟨_, rfl⟩ <;> rfl

section
variable {w w' : World} {B : Nat} {A : Option Addr} {l : List Pr}
theorem PS.cells (h : PS w B A l) (hl : l ≠ []) : ∃ b o, A = some ⟨b, o, none⟩ ∧ b < B ∧ ∀ j u, (cellsOf l)[j]? = some u → w.cell? ((⟨b, o, none⟩ : Addr).add j) = some u := by
  cases l with
  | nil => exact absurd rfl hl
  | cons q r =>
    obtain ⟨b, o, e, hlt, _, _⟩ := h 0 q rfl
    refine ⟨b, o, e, hlt, fun j u hj => ?_⟩
    obtain ⟨i, p, hp, hh⟩ := cellsOf_at _ j u hj
    obtain ⟨b', o', e', _, h1, h2⟩ := h i p hp
    rw [e] at e'
    injection e' with e'
    injection e' with eb eo _
    subst eb; subst eo
    rcases hh with ⟨rfl, rfl⟩ | ⟨rfl, rfl⟩
    · rw [Addr.add_lit]; exact h1
    · rw [Addr.add_lit, ← Nat.add_assoc]; exact h2
theorem PS.of_own {base : Nat} {e : TypeId} {v : Value} (h : w.ownsRow base e 2 v l.length (cellsOf l)) : ∃ A c, v = .slice A l.length c ∧ PS w w.heap.size A l := by
  rcases Nat.eq_zero_or_pos l.length with h0 | h0
  · have : l = [] := List.length_eq_zero_iff.1 h0
    subst this
    rcases h.2 with ⟨rfl, _⟩ | ⟨g, cap, cur, rfl, _⟩
    · exact ⟨_, _, rfl, PS.nil⟩
    · exact ⟨_, _, rfl, PS.nil⟩
  · obtain ⟨g, cap, rfl, _, hlt⟩ := h.form h0
    refine ⟨_, _, rfl, fun i p hp => ⟨g, 0, rfl, hlt, ?_⟩⟩
    have hc := h.cells (g := g) rfl
    have hg := cellsOf_get l i p hp
    have h1 := hc _ _ hg.1
    have h2 := hc _ _ hg.2
    rw [Addr.add_lit] at h1 h2
    exact ⟨h1, by rw [Nat.add_assoc]; exact h2⟩
end

/-- a slice of pairs as a value -/
structure SV (w : World) (A : Option Addr) (c : Nat) (l : List Pr) : Prop where
  ps : PS w w.heap.size A l
  le : l.length ≤ c
  cap : c ≤ maxLen
  none_ : A = none → c = 0
  lit : 0 < c → ∀ a, A = some a → ∃ b o, a = ⟨b, o, none⟩
theorem SV.of_own {w : World} {base : Nat} {e : TypeId} {v : Value} {l : List Pr} (h : w.ownsRow base e 2 v l.length (cellsOf l)) : ∃ A c, v = .slice A l.length c ∧ SV w A c l := by
  obtain ⟨A, c, hv, hp⟩ := PS.of_own h
  refine ⟨A, c, hv, hp, ?_, ?_, ?_, ?_⟩
  all_goals
    rcases h.2 with ⟨h1, h0⟩ | ⟨g, cap, cur, h1, _, _, h4, h5, _⟩
    · rw [hv] at h1; injection h1 with a b c; subst a; subst c; simp_all
    · rw [hv] at h1; injection h1 with a b c; subst a; subst c; simp_all
theorem SV.below {w w' : World} {A : Option Addr} {c : Nat} {l : List Pr} (h : SV w A c l) (hb : Below w.heap.size w w') : SV w' A c l :=
  ⟨(h.ps.below hb).more hb.size, h.le, h.cap, h.none_, h.lit⟩
theorem SV.none_nil {w : World} {c : Nat} {l : List Pr} (h : SV w none c l) : l = [] ∧ c = 0 := by
  have := h.none_ rfl
  have := h.le
  exact ⟨List.length_eq_zero_iff.1 (by omega), by assumption⟩
theorem SV.nil (w : World) : SV w none 0 [] := ⟨PS.nil, by simp, by simp, fun _ => rfl, fun _ a h => by cases h⟩
theorem pairInfo : (Tryz.prog.info? 63).map (fun i => (i.zero, i.size, i.bytes)) = some (some (.agg #[.string ByteArray.empty, .int .i64 0]), 2, 24) := by kernel_rfl

set_option maxRecDepth 100000 in
/-- append onto a row of the call's own, whatever the source -/
theorem app_pairs (w : World) (base : Nat) (ty : TypeId) (v : Value) (xs : List Pr) (hown : w.ownsRow base 63 2 v xs.length (cellsOf xs)) (B : Nat) (A : Option Addr) (c : Nat) (l : List Pr)
    (hA : PS w B A l) (h63 : (xs.length + l.length) * 24 ≤ 140737488355328) (hbase : base ≤ w.heap.size) :
    ∃ v' w', (Builtin.append_ #[36, 36] ty #[v, .slice A l.length c]).run Tryz.prog w = .ok v' w' ∧ w'.ownsRow base 63 2 v' (xs ++ l).length (cellsOf (xs ++ l)) ∧ w.grownBy w' v.ownBlock ∧
      (v'.ownBlock = v.ownBlock ∨ v'.ownBlock = some w.heap.size) := by
  obtain ⟨i0, hi, hz0, hz1, hz2⟩ := info_parts pairInfo
  have hm : xs.length + l.length ≤ maxLen := by unfold maxLen; omega
  rw [List.length_append, cellsOf_append]
  cases A with
  | none =>
    have h0 : l = [] := by
      cases l with
      | nil => rfl
      | cons q r => obtain ⟨_, _, e, _⟩ := hA 0 q rfl; cases e
    subst h0
    refine ⟨v, w, ?_, by simpa [cellsOf] using hown, ⟨rfl, rfl, rfl, Nat.le_refl _, fun _ _ _ => rfl⟩, .inl rfl⟩
    rcases hown.2 with ⟨rfl, h0⟩ | ⟨g, cap, cur, rfl, _, _, hnc, _⟩
    · simp [Builtin.append_, run_underlying Tryz.underlying36, sizeOf, typeInfo, hi, Builtin.lenOf, Builtin.firstCells]
    · simp [Builtin.append_, run_underlying Tryz.underlying36, sizeOf, typeInfo, hi, Builtin.lenOf, Builtin.firstCells, hnc, storeCells]
  | some ad =>
    have hc : ∀ j u, (cellsOf l)[j]? = some u → w.cell? (ad.add j) = some u := by
      intro j u hu
      have hl : l ≠ [] := by rintro rfl; simp [cellsOf] at hu
      obtain ⟨b, o, e, _, hcc⟩ := hA.cells hl
      injection e with e
      subst e
      exact hcc j u hu
    obtain ⟨v', w', hrun, h2, h3, _, h5⟩ := run_append_own_at (P := Tryz.prog) w base 36 ty 63 i0 _ 2 24 Tryz.underlying36 hi hz0 hz1 hz2 rfl (by decide) v xs.length (cellsOf xs) hown ad l.length c (cellsOf l)
      (cellsOf_length l) hc (cellsOf_one l) hm h63 hbase
    exact ⟨v', w', hrun, h2, h3, h5⟩

/-- a slice of pairs that the call itself has made: its row lies from block B on -/
def OV (w : World) (B : Nat) (A : Option Addr) (c : Nat) (l : List Pr) : Prop := w.ownsRow B 63 2 (.slice A l.length c) l.length (cellsOf l)
theorem OV.mono {w : World} {B B' : Nat} {A : Option Addr} {c : Nat} {l : List Pr} (h : OV w B A c l) (hB : B' ≤ B) : OV w B' A c l :=
  ⟨h.1, h.2.imp id fun ⟨g, cap, cur, h1, h2, h3⟩ => ⟨g, cap, cur, h1, Nat.le_trans hB h2, h3⟩⟩
theorem OV.below {w w' : World} {B : Nat} {A : Option Addr} {c : Nat} {l : List Pr} (h : OV w B A c l) (hb : Below w.heap.size w w') : OV w' B A c l :=
  ⟨h.1, h.2.imp id fun ⟨g, cap, cur, h1, h2, h3, h4⟩ => ⟨g, cap, cur, h1, h2, (hb.block g (Array.getElem?_eq_some_iff.1 h3).1).trans h3, h4⟩⟩
theorem OV.sv {w : World} {B : Nat} {A : Option Addr} {c : Nat} {l : List Pr} (h : OV w B A c l) : SV w A c l := by
  obtain ⟨A', c', hv, hs⟩ := SV.of_own h
  injection hv with a b d
  subst a; subst d
  exact hs
theorem OV.of_own {w : World} {B : Nat} {v : Value} {l : List Pr} (h : w.ownsRow B 63 2 v l.length (cellsOf l)) : ∃ A c, v = .slice A l.length c ∧ OV w B A c l := by
  obtain ⟨A, c, hv, hs⟩ := SV.of_own h
  subst hv
  exact ⟨A, c, rfl, h⟩
end Go.Proofs.YtefdipjhjgmokaaGreatDoor
