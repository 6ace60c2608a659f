/-
  What fed does, input by input (no program in it).
-/
import Derived.Test.YtcjfkbponikadaaBq23
import Derived.Test.YtcjfkbponikadaaBq26
set_option linter.unusedVariables false
set_option linter.unusedSimpArgs false
namespace Go.Proofs.Ytcjfkbponikadaa
open Go.RowKit

/-- the acts for one input -/
def onI (i : Nat) (l : List (Nat × Option Ent)) : List (Nat × Option Ent) := l.filter fun a => a.1 = i
theorem fdS_zero (n : Nat) (xs : List Ent) (cs : List (List Int)) : fdS n xs (cs.take 0) = ([], 0) := by simp [fdS]
/-- while the last inputs come first: the other Merge holds what Mix says, p the acts so far -/
theorem fdStep_cases (n : Nat) (xs : List Ent) (acts : List (Nat × Option Ent)) (nx : Nat) (c : List Int) :
    (c.length < 2 ∧ fdStep n xs (acts, nx) c = (acts, nx)) ∨
    (2 ≤ c.length ∧ wi (c.getD 0 0) 3 < 2 ∧ xs.length ≤ nx ∧ fdStep n xs (acts, nx) c = (acts, nx)) ∨
    (2 ≤ c.length ∧ wi (c.getD 0 0) 3 < 2 ∧ ∃ x, xs[nx]? = some x ∧ fdStep n xs (acts, nx) c = (acts ++ [(wi (c.getD 1 0) n, some x)], nx + 1)) ∨
    (2 ≤ c.length ∧ ¬ wi (c.getD 0 0) 3 < 2 ∧ fdStep n xs (acts, nx) c = (acts ++ [(wi (c.getD 1 0) n, none)], nx)) := by
  unfold fdStep
  by_cases h : c.length < 2
  · exact .inl ⟨h, by rw [if_pos h]⟩
  · rw [if_neg h]
    by_cases h2 : wi (c.getD 0 0) 3 < 2
    · rw [if_pos h2]
      cases e : xs[nx]? with
      | none => exact .inr (.inl ⟨by omega, h2, List.getElem?_eq_none_iff.1 e, by simp only⟩)
      | some x => exact .inr (.inr (.inl ⟨by omega, h2, x, rfl, by simp only⟩))
    · rw [if_neg h2]; exact .inr (.inr (.inr ⟨by omega, h2, rfl⟩))
theorem run_bs {α : Type} (p : List (Nat × Option α)) : ∀ (ct : List (List (List α))) (m : Nat), (∀ b ∈ ct, b.length ≤ m) → ∀ b ∈ runM ct p, b.length ≤ m + p.length := by
  induction p with
  | nil => intro ct m h b hb; exact Nat.le_trans (h b hb) (by simp)
  | cons a r ih =>
    intro ct m h b hb
    have h2 := ih (stM ct a) (m + 1) (fun c hc => by
      rcases mem_modify hc with hc | ⟨d, hd, rfl⟩
      · exact Nat.le_succ_of_le (h c hc)
      · have h3 := h d (List.mem_of_getElem? hd)
        obtain ⟨i, v⟩ := a
        cases v with
        | some x => simp only [stI]; rw [List.length_modify]; omega
        | none => simp only [stI, List.length_append, List.length_singleton]; omega) b hb
    simp only [List.length_cons]
    omega
theorem fdS_len (n : Nat) (es : List Ent) (cs : List (List Int)) : (fdS n es cs).1.length ≤ cs.length := by
  have h : ∀ (cs : List (List Int)) (p : List (Nat × Option Ent) × Nat), (cs.foldl (fdStep n es) p).1.length ≤ p.1.length + cs.length := fun cs => by
    induction cs with
    | nil => intro p; simp
    | cons c r ih =>
      intro p
      have h1 := ih (fdStep n es p c)
      have h2 : (fdStep n es p c).1.length ≤ p.1.length + 1 := by
        obtain ⟨acts, nx⟩ := p
        rcases fdStep_cases n es acts nx c with ⟨_, e⟩ | ⟨_, _, _, e⟩ | ⟨_, _, x, _, e⟩ | ⟨_, _, e⟩ <;> rw [e] <;> simp
      simp only [List.foldl_cons, List.length_cons]
      omega
  have := h cs ([], 0)
  unfold fdS
  simpa using this
theorem closeAll_next {α : Type} (ct : List (List (List α))) (l : List Nat) (k i : Nat) (h : l[k]? = some i) : closeAll ct (l.take (k + 1)) = closeM (closeAll ct (l.take k)) i := by
  obtain ⟨hk, rfl⟩ := List.getElem?_eq_some_iff.1 h
  unfold closeAll
  rw [List.take_succ_eq_append_getElem hk, List.foldl_append]
  rfl
/-- where the inner loop stands, plainly -/
structure OrP (ins : List (List (List Ent))) (acts : List (Nat × Option Ent)) (es : List Ent) (rows : List (List Int)) (n i T k nx : Nat) (p : List (Nat × Option Ent)) (ct : List (List (List Ent))) : Prop where
  st : fdS n es (rows.take k) = (p, nx)
  mix : Mix ins acts p i ct
  tot : totM ct ≤ T + nx
  nxl : nx ≤ es.length
  pl : p.length ≤ k
section
variable {ins ct : List (List (List Ent))} {acts p : List (Nat × Option Ent)} {es : List Ent} {rows : List (List Int)} {n i T k nx nx' : Nat} {c : List Int}
theorem OrP.skip (h : OrP ins acts es rows n i T k nx p ct) (hc : rows[k]? = some c) (hs : fdStep n es (p, nx) c = (p, nx)) : OrP ins acts es rows n i T (k + 1) nx p ct :=
  ⟨by rw [fdS_next n es rows k c hc, h.st, hs], h.mix, h.tot, h.nxl, Nat.le_succ_of_le h.pl⟩
theorem OrP.other (h : OrP ins acts es rows n i T k nx p ct) {a : Nat × Option Ent} (hc : rows[k]? = some c) (hs : fdStep n es (p, nx) c = (p ++ [a], nx')) (hn : nx ≤ nx') (hl : nx' ≤ es.length) (ha : a.1 ≠ i) : OrP ins acts es rows n i T (k + 1) nx' (p ++ [a]) ct :=
  ⟨by rw [fdS_next n es rows k c hc, h.st, hs], h.mix.other a ha, by have := h.tot; omega, hl, by have := h.pl; simp; omega⟩
theorem OrP.own (h : OrP ins acts es rows n i T k nx p ct) {v : Option Ent} (hc : rows[k]? = some c) (hs : fdStep n es (p, nx) c = (p ++ [(i, v)], nx')) (hl : nx' ≤ es.length) (ht : totM (stM ct (i, v)) ≤ T + nx') : OrP ins acts es rows n i T (k + 1) nx' (p ++ [(i, v)]) (stM ct (i, v)) :=
  ⟨by rw [fdS_next n es rows k c hc, h.st, hs], h.mix.step v, ht, hl, by have := h.pl; simp; omega⟩
/-- an input has had few closings -/
theorem OrP.few (h : OrP ins acts es rows n i T k nx p ct) (hi : ∀ b ∈ ins, b.length ≤ 1) {b : List (List Ent)} (hb : ct[i]? = some b) : b.length ≤ 1 + k := by
  have h1 := h.mix.at_
  rw [hb] at h1
  have := run_bs p ins 1 hi b (List.mem_of_getElem? h1.symm)
  have := h.pl
  omega
end
/-- where the outer loop stands, plainly: j inputs are left -/
def OuP (ins : List (List (List Ent))) (acts : List (Nat × Option Ent)) (n j : Nat) (ct : List (List (List Ent))) : Prop := (if j = 0 then ct = runM ins acts else Mix ins acts [] (j - 1) ct) ∧ totM ct ≤ (n - j) * 12
theorem OuP.go {ins ct : List (List (List Ent))} {acts : List (Nat × Option Ent)} {es : List Ent} {rows : List (List Int)} {n j : Nat} (h : OuP ins acts n (j + 1) ct) : OrP ins acts es rows n j ((n - (j + 1)) * 12) 0 0 [] ct := by
  obtain ⟨h1, h2⟩ := h
  rw [if_neg (by omega), Nat.add_sub_cancel] at h1
  exact ⟨fdS_zero n es rows, h1, by omega, Nat.zero_le _, Nat.zero_le _⟩
theorem OrP.back {ins ct : List (List (List Ent))} {acts p : List (Nat × Option Ent)} {es : List Ent} {rows : List (List Int)} {n j m nx : Nat} (h : OrP ins acts es rows n j ((n - (j + 1)) * 12) m nx p ct) (ha : acts = (fdS n es (rows.take m)).1) (he : es.length ≤ 12) (hj : j < n) : OuP ins acts n j ct := by
  have hp : p = acts := by rw [ha, h.st]
  have hm := h.mix
  rw [hp] at hm
  refine ⟨?_, by
    have h1 := h.tot
    have h2 := h.nxl
    obtain ⟨d, hd⟩ : ∃ d, n - j = d + 1 := ⟨n - j - 1, by omega⟩
    rw [show n - (j + 1) = d by omega] at h1
    rw [hd]; omega⟩
  cases j with
  | zero => rw [if_pos rfl]; exact hm.last
  | succ j => rw [if_neg (by omega), Nat.add_sub_cancel]; exact hm.down
theorem OuP.start {ins : List (List (List Ent))} {acts : List (Nat × Option Ent)} {n : Nat} (hl : ins.length = n) (h1 : 1 ≤ n) (ht : totM ins = 0) : OuP ins acts n n ins :=
  ⟨by rw [if_neg (by omega)]; exact Mix.first (by omega), by rw [ht]; exact Nat.zero_le _⟩
theorem tot_none {α : Type} (n : Nat) : totM (List.replicate n [([] : List α)]) = 0 := by
  induction n with
  | zero => rfl
  | succ n ih => simp only [totM, List.replicate_succ, List.map_cons, List.sum_cons] at ih ⊢; rw [ih]; rfl
theorem apa_new {s : Ms} {w w' : World} {B B' : Nat} {A : Option Addr} {c : Nat} {xs : List Em} (h : EW w' B' A c xs) (hs : s.Ok w B) (hB : w.heap.size ≤ B') : Apa s A := fun k hk hF => by
  have h1 := (World.ownsRow.lt h.row k (bo _ _ hk)).1
  have h2 := (hs.lo hF).2
  omega
/-- two Merges, one of which changes -/
structure OrH (w : World) (A : Option Addr) (c : Nat) (xs : List Em) (cta : List (List (List Ent))) (ga gb : Nat) (sa sb : Ms) (wr : World) : Prop where
  a : sa.Ok wr w.heap.size
  ag : sa.g = ga
  act : sa.ct = cta
  b : sb.Ok wr w.heap.size
  bg : sb.g = gb
  dj : ∀ q, sb.F q → ¬ sa.F q
  xs : EW wr w.heap.size A c xs
  apb : Apa sb A
  be : Below w.heap.size w wr
theorem OrH.below {w wr w' : World} {A : Option Addr} {c ga gb : Nat} {xs : List Em} {cta : List (List (List Ent))} {sa sb : Ms} (h : OrH w A c xs cta ga gb sa sb wr) (hb : Below wr.heap.size wr w') : OrH w A c xs cta ga gb sa sb w' :=
  ⟨h.a.below hb, h.ag, h.act, h.b.below hb, h.bg, h.dj, h.xs.below hb, h.apb, h.be.trans (hb.mono h.be.size)⟩
theorem OrH.step {w wr w' : World} {A : Option Addr} {c ga gb : Nat} {xs : List Em} {cta ct' : List (List (List Ent))} {sa sb sb' : Ms} (h : OrH w A c xs cta ga gb sa sb wr) (hT : sb.To wr w.heap.size sb' w' ct') : OrH w A c xs cta ga gb sa sb' w' := by
  obtain ⟨x1, x2⟩ := h.xs.to_ h.b hT h.apb
  exact ⟨h.a.fr hT.fr (fun q hq hb => h.dj q hb hq) (h.b.off (by decide) (by decide) (by decide) (by decide)) (h.b.off (by decide) (by decide) (by decide) (by decide)) (h.b.off (by decide) (by decide) (by decide) (by decide)), h.ag, h.act, hT.ok, hT.g.trans h.bg,
    fun q hq ha => (hT.F q hq).elim (fun e => h.dj q e ha) fun e => by have := (h.a.lo ha).2; omega, x1, x2, hT.below_ h.b (Nat.le_refl _) h.be⟩
theorem not_take {l : List Nat} (hn : l.Nodup) {k i : Nat} (h : l[k]? = some i) : i ∉ l.take k := by
  obtain ⟨hk, rfl⟩ := List.getElem?_eq_some_iff.1 h
  have h2 : (l.take k ++ l[k] :: l.drop (k + 1)).Nodup := by rw [List.getElem_cons_drop, List.take_append_drop]; exact hn
  rw [List.nodup_append] at h2
  exact fun h3 => h2.2.2 _ h3 _ List.mem_cons_self rfl
/-- while those that are waited for close -/
structure ClH (w : World) (ga : Nat) (ct : List (List (List Ent))) (Aw : Option Addr) (cw : Nat) (k : Nat) (sa : Ms) (wr : World) : Prop where
  a : sa.Ok wr w.heap.size
  ag : sa.g = ga
  act : sa.ct = closeAll ct ((waitM ct).take k)
  ws : OR wr w.heap.size 3 Aw cw (nV (waitM ct))
  be : Below w.heap.size w wr
theorem ClH.below {w wr w' : World} {ga k cw : Nat} {ct : List (List (List Ent))} {Aw : Option Addr} {sa : Ms} (h : ClH w ga ct Aw cw k sa wr) (hb : Below wr.heap.size wr w') : ClH w ga ct Aw cw k sa w' := ⟨h.a.below hb, h.ag, h.act, h.ws.below hb, h.be.trans (hb.mono h.be.size)⟩
theorem ClH.step {w wr w' : World} {ga k cw i : Nat} {ct : List (List (List Ent))} {Aw : Option Addr} {sa sa' : Ms} (h : ClH w ga ct Aw cw k sa wr) (hi : (waitM ct)[k]? = some i) (hT : sa.To wr w.heap.size sa' w' (closeM sa.ct i)) : ClH w ga ct Aw cw (k + 1) sa' w' :=
  ⟨hT.ok, hT.g.trans h.ag, by rw [hT.ct, h.act, closeAll_next ct _ k i hi], hT.fr.own_ty h.ws (h.a.off (by decide) (by decide) (by decide) (by decide)), hT.below_ h.a (Nat.le_refl _) h.be⟩
theorem Ms.Ok.ne_ {s : Ms} {w : World} {B : Nat} (h : s.Ok w B) : s.ct ≠ [] ∧ ∀ b ∈ s.ct, b ≠ [] := by
  refine ⟨fun e => h.gm.ne (by have := congrArg List.length e; simp [Ms.ct, ctM] at this; exact this), fun b hb e => ?_⟩
  obtain ⟨xi, hxi, rfl⟩ := List.mem_map.1 (show b ∈ s.ins.map ctI from hb)
  obtain ⟨q, hq⟩ := List.mem_iff_getElem?.1 hxi
  have := congrArg List.length e
  simp [ctI] at this
  exact h.mg.ne q xi hq this
end Go.Proofs.Ytcjfkbponikadaa
