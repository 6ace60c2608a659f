/-
  A Merge as a state, and what its steps make of what it holds (no body of the program in it).
  What a Merge's log holds (no body of the program in it).
  Plain maps, plainly (no program in it).
-/
import Derived.Test.YtefdipjhjgmokaaGreatBv7
import Derived.Test.YtefdipjhjgmokaaGreatBv1
set_option linter.unusedVariables false
set_option linter.unusedSimpArgs false
namespace Go.Proofs.YtefdipjhjgmokaaGreat
open Go.RowKit

section
variable {α : Type}
def totB (b : List (List α)) : Nat := (b.map List.length).sum
theorem tot_modify (ins : List (List (List α))) : ∀ (i : Nat) (b : List (List α)) (f : List (List α) → List (List α)), ins[i]? = some b → totM (ins.modify i f) + totB b = totM ins + totB (f b) := by
  induction ins with
  | nil => intro i b f h; simp at h
  | cons a r ih =>
    intro i b f h
    cases i with
    | zero => simp at h; subst h; simp [totM, totB]; omega
    | succ i =>
      simp at h
      have := ih i b f h
      simp only [totM, List.modify_succ_cons, List.map_cons, List.sum_cons] at this ⊢
      omega
theorem totB_modify (b : List (List α)) : ∀ (k : Nat) (x : α), k < b.length → totB (b.modify k (· ++ [x])) = totB b + 1 := by
  induction b with
  | nil => intro k x h; simp at h
  | cons a r ih =>
    intro k x h
    cases k with
    | zero => simp [totB]; omega
    | succ k =>
      have := ih k x (by simp at h; omega)
      simp only [totB, List.modify_succ_cons, List.map_cons, List.sum_cons] at this ⊢
      omega
theorem tot_add {ins : List (List (List α))} {i : Nat} {b : List (List α)} (x : α) (h : ins[i]? = some b) (hb : b ≠ []) : totM (addM ins i x) = totM ins + 1 := by
  have h1 := tot_modify ins i b (fun b => b.modify (b.length - 1) (· ++ [x])) h
  have h2 := totB_modify b (b.length - 1) x (by have := List.length_pos_iff.2 hb; omega)
  unfold addM
  omega
theorem tot_close {ins : List (List (List α))} {i : Nat} {b : List (List α)} (h : ins[i]? = some b) : totM (closeM ins i) = totM ins := by
  have h1 := tot_modify ins i b (· ++ [[]]) h
  have h2 : totB (b ++ [[]]) = totB b := by simp [totB]
  unfold closeM
  omega
/-- the error of Close, the number, what is held behind it -/
def closeQ (ct : List (List (List α))) (i : Int) : Int := if 0 ≤ i ∧ i < (ct.length : Int) then (if 61 ≤ ((ct[i.toNat]?).getD []).length then 2 else 0) else 4
def closeN (ct : List (List (List α))) (i : Int) : Int := if closeQ ct i = 0 then (((ct[i.toNat]?).getD []).length : Int) else 0
def closeC (ct : List (List (List α))) (i : Int) : List (List (List α)) := if closeQ ct i = 0 then closeM ct i.toNat else ct
theorem closeQ_ok {ct : List (List (List α))} {i : Nat} {b : List (List α)} (h : ct[i]? = some b) (hb : b.length ≤ 60) : closeQ ct (i : Int) = 0 ∧ closeN ct (i : Int) = (b.length : Int) ∧ closeC ct (i : Int) = closeM ct i := by
  have hi : i < ct.length := (List.getElem?_eq_some_iff.1 h).1
  have hq : closeQ ct (i : Int) = 0 := by
    unfold closeQ
    rw [if_pos (by omega), Int.toNat_natCast, h]
    simp only [Option.getD_some]
    rw [if_neg (by omega)]
  exact ⟨hq, by unfold closeN; rw [if_pos hq, Int.toNat_natCast, h]; rfl, by unfold closeC; rw [if_pos hq, Int.toNat_natCast]⟩
theorem closeQ_full {ct : List (List (List α))} {i : Nat} {b : List (List α)} (h : ct[i]? = some b) (hb : 61 ≤ b.length) : closeQ ct (i : Int) = 2 ∧ closeN ct (i : Int) = 0 ∧ closeC ct (i : Int) = ct := by
  have hi : i < ct.length := (List.getElem?_eq_some_iff.1 h).1
  have hq : closeQ ct (i : Int) = 2 := by
    unfold closeQ
    rw [if_pos (by omega), Int.toNat_natCast, h]
    simp only [Option.getD_some]
    rw [if_pos (by omega)]
  exact ⟨hq, by unfold closeN; rw [if_neg (by rw [hq]; decide)], by unfold closeC; rw [if_neg (by rw [hq]; decide)]⟩
theorem closeQ_none {ct : List (List (List α))} {i : Int} (h : ¬ (0 ≤ i ∧ i < (ct.length : Int))) : closeQ ct i = 4 ∧ closeN ct i = 0 ∧ closeC ct i = ct := by
  have hq : closeQ ct i = 4 := by unfold closeQ; rw [if_neg h]
  exact ⟨hq, by unfold closeN; rw [if_neg (by rw [hq]; decide)], by unfold closeC; rw [if_neg (by rw [hq]; decide)]⟩
end
/-- the error of Add, what is held behind it -/
def addQ (ct : List (List (List Ent))) (i : Int) (x : Ent) : Int := if 0 ≤ i ∧ i < (ct.length : Int) then (if chkE x = 0 then (if 60 ≤ totM ct then 2 else 0) else chkE x) else 4
def addC (ct : List (List (List Ent))) (i : Int) (x : Ent) : List (List (List Ent)) := if addQ ct i x = 0 then addM ct i.toNat (dropE x) else ct

/-- a Merge: where it lies -/
structure Ms where
  g : Nat
  x : Tx
  AI : Option Addr
  cI : Nat
  ins : List In
  added : Nat
def Ms.F (s : Ms) (k : Nat) : Prop := CF s.g s.AI s.ins k
def Ms.ct (s : Ms) : List (List (List Ent)) := ctM s.ins
structure Ms.Ok (s : Ms) (w : World) (B : Nat) : Prop where
  mg : MG w B s.g s.x s.AI s.cI s.ins s.added
  gm : Gm s.ins s.added
/-- a step of a Merge -/
structure Ms.To (s : Ms) (w : World) (B : Nat) (s' : Ms) (w' : World) (ct' : List (List (List Ent))) : Prop where
  g : s'.g = s.g
  x : s'.x = s.x
  ok : s'.Ok w' B
  ct : s'.ct = ct'
  fr : Fr s.F w w'
  F : ∀ k, s'.F k → s.F k ∨ w.heap.size ≤ k
section
variable {s s' s2 : Ms} {w w1 w' : World} {B B' : Nat} {ct' ct2 : List (List (List Ent))}
theorem Ms.Ok.below (h : s.Ok w B) (hb : Below w.heap.size w w') : s.Ok w' B := ⟨h.mg.below hb, h.gm⟩
theorem Ms.Ok.mono (h : s.Ok w B) (hB : B' ≤ B) : s.Ok w B' := ⟨h.mg.mono hB, h.gm⟩
theorem Ms.Ok.lo (h : s.Ok w B) {k : Nat} (hk : s.F k) : B ≤ k ∧ k < w.heap.size := (h.mg.cf_ty hk).2
theorem Ms.Ok.size (h : s.Ok w B) : B ≤ w.heap.size := by have := h.mg.low; have := h.mg.box.lt; omega
theorem Ms.Ok.fr {F : Nat → Prop} (h : s.Ok w B) (hf : Fr F w w') (hd : ∀ q, s.F q → ¬ F q) (o1 : Off F w 106) (o2 : Off F w 9) (o3 : Off F w 3) : s.Ok w' B := ⟨h.mg.fr hf hd o1 o2 o3, h.gm⟩
theorem Ms.To.mono (h : s.To w B s' w' ct') (hB : B' ≤ B) : s.To w B' s' w' ct' := ⟨h.g, h.x, h.ok.mono hB, h.ct, h.fr, h.F⟩
theorem Ms.To.same (h : s.Ok w B) (hb : Below w.heap.size w w') : s.To w B s w' s.ct := ⟨rfl, rfl, h.below hb, rfl, .of_below hb, fun _ => .inl⟩
theorem Ms.To.pre (h : s.To w1 B s' w' ct') (hb : Below w.heap.size w w1) : s.To w B s' w' ct' := ⟨h.g, h.x, h.ok, h.ct, (Fr.of_below hb).comp h.fr, fun k hk => (h.F k hk).imp id fun e => Nat.le_trans hb.size e⟩
theorem Ms.To.post (h : s.To w B s' w1 ct') (hb : Below w1.heap.size w1 w') : s.To w B s' w' ct' := ⟨h.g, h.x, h.ok.below hb, h.ct, h.fr.comp (.of_below hb), h.F⟩
theorem Ms.To.trans (h : s.To w B s' w1 ct') (h2 : s'.To w1 B s2 w' ct2) : s.To w B s2 w' ct2 :=
  ⟨h2.g.trans h.g, h2.x.trans h.x, h2.ok, h2.ct, h.fr.trans h2.fr h.F, fun k hk => (h2.F k hk).elim (h.F k) fun e => .inr (Nat.le_trans h.fr.size e)⟩
/-- below the Merge nothing changes -/
theorem Ms.To.below_ {a : World} {B0 : Nat} (h : s.To w B s' w' ct') (ho : s.Ok w B) (hB : B0 ≤ B) (hb : Below B0 a w) : Below B0 a w' := h.fr.below (fun k hk => Nat.le_trans hB (ho.lo hk).1) (Nat.le_trans hB ho.size) hb
/-- what lies apart from a Merge -/
theorem Ms.Ok.off (h : s.Ok w B) {t : TypeId} (h0 : t ≠ 67) (h1 : t ≠ 64) (h2 : t ≠ 111) (h3 : t ≠ 109) (h4 : t ≠ 37) : Off s.F w t := h.mg.off h0 h1 h2 h3 h4
end
/-- a row of entries lies apart from a Merge -/
def Apa (s : Ms) (A : Option Addr) : Prop := ∀ k, blk A = some k → ¬ s.F k
theorem EW.to_ {s s' : Ms} {w w' : World} {B B' : Nat} {ct' : List (List (List Ent))} {A : Option Addr} {c : Nat} {xs : List Em} (h : EW w B' A c xs) (ho : s.Ok w B) (ht : s.To w B s' w' ct') (ha : Apa s A) : EW w' B' A c xs ∧ Apa s' A :=
  ⟨⟨ht.fr.own h.row fun k hk => ha k (ob hk), fun x hx => ⟨ht.fr.own_ty (h.eo x hx).ops (ho.off (by decide) (by decide) (by decide) (by decide) (by decide)), ⟨ht.fr.own_ty (h.eo x hx).map.cuts (ho.off (by decide) (by decide) (by decide) (by decide) (by decide)), ht.fr.own_ty (h.eo x hx).map.own (ho.off (by decide) (by decide) (by decide) (by decide) (by decide))⟩⟩, h.bd⟩,
    fun k hk hF => (ht.F k hF).elim (ha k hk) fun e => by have := (World.ownsRow.lt h.row k (bo _ _ hk)).2; omega⟩
end Go.Proofs.YtefdipjhjgmokaaGreat

set_option linter.unusedVariables false
set_option linter.unusedSimpArgs false
namespace Go.Proofs.YtefdipjhjgmokaaGreat
open Go.RowKit

section
variable {α : Type}
theorem log_mem {ct : List (List (List α))} {e : α} (h : e ∈ logM ct) : ∃ b ∈ ct, ∃ l ∈ b, e ∈ l := by
  unfold logM logUp at h
  obtain ⟨l, hl, he⟩ := List.mem_flatten.1 h
  obtain ⟨r, _, rfl⟩ := List.mem_map.1 hl
  unfold roundL at he
  obtain ⟨l, hl, he⟩ := List.mem_flatten.1 he
  obtain ⟨b, hb, rfl⟩ := List.mem_map.1 hl
  cases e2 : b[r]? with
  | none => rw [e2] at he; simp at he
  | some l => rw [e2] at he; exact ⟨b, hb, l, List.mem_of_getElem? e2, he⟩
end
theorem sum_le {β : Type} (l : List β) (f g : β → Nat) (h : ∀ x ∈ l, f x ≤ g x) : (l.map f).sum ≤ (l.map g).sum := by
  induction l with
  | nil => exact Nat.le_refl _
  | cons a l ih =>
    have h1 := h a (by simp)
    have h2 := ih fun x hx => h x (by simp [hx])
    simp; omega
theorem round_len {α : Type} (ct : List (List (List α))) (r : Nat) : (roundL ct r).length ≤ totM ct := by
  unfold roundL totM
  rw [List.length_flatten, List.map_map]
  refine sum_le ct _ _ fun b _ => ?_
  simp only [Function.comp_apply]
  cases e : b[r]? with
  | none => simp
  | some l => exact mem_sum (List.mem_map_of_mem (List.mem_of_getElem? e))
theorem log_len {α : Type} (ct : List (List (List α))) : (logM ct).length ≤ 60 * totM ct := by
  have h : ∀ R, (logUp ct R).length ≤ R * totM ct := fun R => by
    induction R with
    | zero => simp [logUp]
    | succ R ih =>
      rw [logUp_succ, List.length_append, Nat.succ_mul]
      have := round_len ct R
      omega
  exact Nat.le_trans (h _) (Nat.mul_le_mul_right _ (rnd_60 ct))
theorem sum_add {β : Type} (l : List β) (f g : β → Nat) : (l.map fun x => f x + g x).sum = (l.map f).sum + (l.map g).sum := by
  induction l with
  | nil => rfl
  | cons a l ih => simp only [List.map_cons, List.sum_cons, ih]; omega
theorem take_sum_le (l : List Nat) (k : Nat) : (l.take k).sum ≤ l.sum := by
  have := congrArg List.sum (List.take_append_drop k l)
  rw [List.sum_append] at this
  omega
/-- a log holds no more than came in -/
theorem log_tot {α : Type} (ct : List (List (List α))) : (logM ct).length ≤ totM ct := by
  have h : ∀ R, (logUp ct R).length = (ct.map fun b => ((b.map List.length).take R).sum).sum := fun R => by
    induction R with
    | zero =>
      simp only [logUp, List.range_zero, List.map_nil, List.flatten_nil, List.length_nil, List.take_zero, List.sum_nil]
      induction ct with
      | nil => rfl
      | cons b r ih => simp only [List.map_cons, List.sum_cons]; omega
    | succ R ih =>
      rw [logUp_succ, List.length_append, ih]
      unfold roundL
      rw [List.length_flatten, List.map_map, ← sum_add]
      congr 1
      refine List.map_congr_left fun b _ => ?_
      simp only [Function.comp_apply]
      cases e : b[R]? with
      | none =>
        have hl := List.getElem?_eq_none_iff.1 e
        rw [List.take_of_length_le (by simpa using hl), List.take_of_length_le (by simp; omega)]
        simp
      | some l =>
        obtain ⟨hl, rfl⟩ := List.getElem?_eq_some_iff.1 e
        rw [List.take_succ_eq_append_getElem (by simpa using hl), List.sum_append]
        simp
  unfold logM
  rw [h]
  exact sum_le ct _ _ fun b _ => take_sum_le _ _
theorem Ms.Ok.log_chk {s : Ms} {w : World} {B : Nat} (h : s.Ok w B) {e : Ent} (he : e ∈ logM s.ct) : chkE e = 0 := by
  obtain ⟨b, hb, l, hl, he⟩ := log_mem he
  obtain ⟨x, hx, rfl⟩ := List.mem_map.1 hb
  obtain ⟨t, ht, rfl⟩ := List.mem_map.1 hl
  obtain ⟨y, hy, rfl⟩ := List.mem_map.1 he
  obtain ⟨i, hi⟩ := List.mem_iff_getElem?.1 hx
  obtain ⟨k, hk⟩ := List.mem_iff_getElem?.1 ht
  exact (h.mg.good i x k t hi hk y hy).1
theorem Ms.Ok.log_few {s : Ms} {w : World} {B : Nat} (h : s.Ok w B) {xs : List Em} (he : xs.map entOf = logM s.ct) (hm : ∀ x ∈ xs, chkE (entOf x) = 0 → dropE (entOf x) = entOf x) : ∀ x ∈ xs, x.d.length < 4611686018427387904 := fun x hx => by
  have h1 := h.log_chk (e := entOf x) (by rw [← he]; exact List.mem_map_of_mem hx)
  have h2 := hm x hx h1
  obtain ⟨D, c, d, isM, m⟩ := x
  cases isM
  · have := (chkD_zero.1 (show chkD d = 0 from h1)).2.1
    simp only; omega
  · have : ([] : List Opr) = d := congrArg Ent.d h2
    simp only; rw [← this]; simp
theorem Ms.Ok.log_drop {s : Ms} {w : World} {B : Nat} (h : s.Ok w B) {e : Ent} (he : e ∈ logM s.ct) : dropE e = e := by
  obtain ⟨b, hb, l, hl, he⟩ := log_mem he
  obtain ⟨x, hx, rfl⟩ := List.mem_map.1 hb
  obtain ⟨t, ht, rfl⟩ := List.mem_map.1 hl
  obtain ⟨y, hy, rfl⟩ := List.mem_map.1 he
  obtain ⟨i, hi⟩ := List.mem_iff_getElem?.1 hx
  obtain ⟨k, hk⟩ := List.mem_iff_getElem?.1 ht
  exact (h.mg.good i x k t hi hk y hy).2
theorem Apa.fresh {s : Ms} {w w' : World} {B B' : Nat} {A : Option Addr} {c : Nat} {xs : List Em} (h : EW w' B' A c xs) (hs : s.Ok w B) (hB : w.heap.size ≤ B') : Apa s A := fun k hk hF => by
  have h1 := (World.ownsRow.lt h.row k (bo _ _ hk)).1
  have h2 := (hs.lo hF).2
  omega
theorem tot_new {α : Type} (n : Nat) : totM (List.replicate n [([] : List α)]) = 0 := by
  induction n with
  | zero => rfl
  | succ n ih => simp only [totM, List.replicate_succ, List.map_cons, List.sum_cons] at ih ⊢; rw [ih]; rfl
end Go.Proofs.YtefdipjhjgmokaaGreat

set_option linter.unusedVariables false
set_option linter.unusedSimpArgs false
namespace Go.Proofs.YtefdipjhjgmokaaGreat

/-- the plain map of the first k cuts -/
def plN (cs : List ByteArray) (os : List Int) : Nat → List ByteArray × List Int
  | 0 => ([], [os.getD 0 0])
  | k + 1 => if os.getD (k + 1) 0 = os.getD k 0 then plN cs os k else ((plN cs os k).1 ++ [cs.getD k ByteArray.empty], (plN cs os k).2 ++ [os.getD (k + 1) 0])
section
variable {cs : List ByteArray} {os : List Int}
theorem plN_len (cs : List ByteArray) (os : List Int) (k : Nat) : (plN cs os k).2.length = (plN cs os k).1.length + 1 := by
  induction k with
  | zero => rfl
  | succ k ih => simp only [plN]; split <;> simp [ih]
theorem plN_last (cs : List ByteArray) (os : List Int) (k : Nat) : (plN cs os k).2.getD (plN cs os k).1.length 0 = os.getD k 0 := by
  induction k with
  | zero => rfl
  | succ k ih =>
    simp only [plN]
    split
    · rename_i h; rw [ih, h]
    · simp only [List.length_append, List.length_singleton, List.getD_eq_getElem?_getD]
      rw [List.getElem?_append_right (by rw [plN_len]; exact Nat.le_refl _), plN_len]
      simp
theorem take_snoc_ {k : Nat} (h : k < cs.length) : cs.take (k + 1) = cs.take k ++ [cs.getD k ByteArray.empty] := by
  rw [List.take_succ_eq_append_getElem h]
  simp [List.getD_eq_getElem?_getD, h]
theorem plN_sub (os : List Int) {k : Nat} (hk : k ≤ cs.length) : (plN cs os k).1.Sublist (cs.take k) := by
  induction k with
  | zero => simp [plN]
  | succ k ih =>
    rw [take_snoc_ (by omega)]
    simp only [plN]
    split
    · exact (ih (by omega)).trans (List.sublist_append_left _ _)
    · exact (ih (by omega)).append (List.Sublist.refl _)
theorem plN_own {k : Nat} (hk : k < os.length) (h : ∀ n ∈ os, 0 ≤ n ∧ n ≤ 3) : ∀ n ∈ (plN cs os k).2, 0 ≤ n ∧ n ≤ 3 := by
  have hm : ∀ i, i < os.length → os.getD i 0 ∈ os := fun i hi => by rw [List.getD_eq_getElem?_getD, List.getElem?_eq_getElem hi]; exact List.getElem_mem hi
  induction k with
  | zero => intro n hn; simp [plN] at hn; subst hn; have := h _ (hm 0 hk); simpa [List.getD_eq_getElem?_getD] using this
  | succ k ih =>
    simp only [plN]
    split
    · exact ih (by omega)
    · intro n hn
      rcases List.mem_append.1 hn with hn | hn
      · exact ih (by omega) n hn
      · rw [List.mem_singleton.1 hn]; exact h _ (hm _ hk)
/-- no neighbours have one owner -/
theorem plN_adj (cs : List ByteArray) (os : List Int) (k : Nat) : ∀ i, i + 1 < (plN cs os k).2.length → (plN cs os k).2.getD (i + 1) 0 ≠ (plN cs os k).2.getD i 0 := by
  induction k with
  | zero => intro i hi; simp [plN] at hi
  | succ k ih =>
    simp only [plN]
    split
    · exact ih
    · rename_i h
      intro i hi
      simp only [List.length_append, List.length_singleton] at hi
      have hl := plN_len cs os k
      by_cases hlt : i + 1 < (plN cs os k).2.length
      · simp only [List.getD_eq_getElem?_getD]
        rw [List.getElem?_append_left hlt, List.getElem?_append_left (by omega)]
        have := ih i hlt
        simpa only [List.getD_eq_getElem?_getD] using this
      · have e : i + 1 = (plN cs os k).2.length := by omega
        have h1 := plN_last cs os k
        have e2 : i = (plN cs os k).1.length := by omega
        simp only [List.getD_eq_getElem?_getD] at h1 h ⊢
        rw [List.getElem?_append_right (by omega), List.getElem?_append_left (by omega), e, Nat.sub_self, e2, h1]
        simpa using h
theorem plN_valid (h : OkM cs os) : OkM (plN cs os cs.length).1 (plN cs os cs.length).2 := by
  have hs := plN_sub (cs := cs) os (Nat.le_refl _)
  rw [List.take_length] at hs
  obtain ⟨h1, h2⟩ := cutsB_iff.1 h.cuts
  exact ⟨Nat.le_trans hs.length_le h.few, plN_len _ _ _, cutsB_iff.2 ⟨fun k hk => h1 k (hs.subset hk), h2.sublist hs⟩, plN_own (by rw [h.len]; omega) h.own⟩
/-- a plain map's plain map is itself -/
theorem plN_same {k : Nat} (hk : k ≤ cs.length) (hl : os.length = cs.length + 1) (h : ∀ i, i < k → os.getD (i + 1) 0 ≠ os.getD i 0) : plN cs os k = (cs.take k, os.take (k + 1)) := by
  induction k with
  | zero =>
    have : 0 < os.length := by omega
    cases os with
    | nil => simp at this
    | cons x r => simp [plN]
  | succ k ih =>
    simp only [plN]
    rw [if_neg (h k (by omega)), ih (by omega) (fun i hi => h i (by omega)), take_snoc_ (by omega)]
    have e : os.take (k + 1 + 1) = os.take (k + 1) ++ [os.getD (k + 1) 0] := by
      rw [List.take_succ_eq_append_getElem (show k + 1 < os.length by omega)]
      simp [List.getD_eq_getElem?_getD, show k + 1 < os.length by omega]
    rw [e]
theorem plN_twice (h : OkM cs os) : plN (plN cs os cs.length).1 (plN cs os cs.length).2 (plN cs os cs.length).1.length = plN cs os cs.length := by
  have hl := plN_len cs os cs.length
  rw [plN_same (Nat.le_refl _) hl (fun i hi => plN_adj cs os cs.length i (by omega)), List.take_length, ← hl, List.take_length]
theorem atC_snoc (l : List ByteArray) (c key : ByteArray) : atC (l ++ [c]) key = if atC l key = l.length ∧ leB c key = true then l.length + 1 else atC l key := by
  unfold atC
  rw [List.takeWhile_append]
  by_cases h : (l.takeWhile fun k => leB k key).length = l.length
  · rw [if_pos h]
    cases hc : leB c key <;> simp [List.takeWhile_cons, hc, h]
  · rw [if_neg h, if_neg (fun e => h e.1)]
theorem atC_all {l : List ByteArray} {key : ByteArray} (h : ∀ k ∈ l, leB k key = true) : atC l key = l.length := by
  unfold atC
  induction l with
  | nil => rfl
  | cons c r ih => simp [List.takeWhile_cons, h c (by simp), ih fun k hk => h k (by simp [hk])]
/-- plain, all keys are whose they were -/
theorem plN_whose (hs : cs.Pairwise (fun a b => ltB a b = true)) (key : ByteArray) {k : Nat} (hk : k ≤ cs.length) : whV (plN cs os k).1 (plN cs os k).2 key = os.getD (atC (cs.take k) key) 0 := by
  induction k with
  | zero => simp [plN, whV, atC]
  | succ k ih =>
    have ih := ih (by omega)
    have hkl : k < cs.length := by omega
    have hck : cs.getD k ByteArray.empty = cs[k] := by simp [List.getD_eq_getElem?_getD, hkl]
    have hsub := plN_sub (cs := cs) os (show k ≤ cs.length by omega)
    rw [take_snoc_ hkl, atC_snoc, hck]
    have htl : (cs.take k).length = k := by rw [List.length_take]; omega
    cases hc : leB cs[k] key with
    | true =>
      have hall : ∀ x ∈ cs.take k, leB x key = true := fun x hx => by
        obtain ⟨i, hi, e⟩ := List.getElem_of_mem hx
        rw [List.getElem_take] at e
        rw [← e]
        exact leB_trans_ (List.pairwise_iff_getElem.1 hs i k (by omega) hkl (by omega)) hc
      have ha := atC_all hall
      rw [if_pos ⟨ha, rfl⟩, htl]
      rw [ha, htl] at ih
      simp only [plN]
      split
      · rename_i h; rw [ih, h]
      · unfold whV
        rw [hck, atC_snoc, if_pos ⟨atC_all fun x hx => hall x (hsub.subset hx), hc⟩]
        simp only [List.getD_eq_getElem?_getD]
        rw [List.getElem?_append_right (by rw [plN_len]; exact Nat.le_refl _), plN_len]
        simp
    | false =>
      rw [if_neg (by simp)]
      simp only [plN]
      split
      · exact ih
      · unfold whV at *
        rw [hck, atC_snoc, if_neg (by simp [hc])]
        rw [← ih]
        simp only [List.getD_eq_getElem?_getD]
        rw [List.getElem?_append_left (by rw [plN_len]; have := atC_le (plN cs os k).1 key; omega)]
end
end Go.Proofs.YtefdipjhjgmokaaGreat
