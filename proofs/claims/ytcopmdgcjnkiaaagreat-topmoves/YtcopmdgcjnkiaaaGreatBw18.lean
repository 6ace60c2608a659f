/-
  (*merge.Merge).Rounds.
  A Merge as a state, and what its steps make of what it holds (no body of the program in it).
-/
import Derived.Test.YtcopmdgcjnkiaaaGreatBw17
import Derived.Lib.MinMax
set_option linter.unusedVariables false
set_option linter.unusedSimpArgs false
namespace Go.Proofs.YtcopmdgcjnkiaaaGreat
open Go.RowKit

/-- all entries of a Merge -/
def totM {α : Type} (ins : List (List (List α))) : Nat := (ins.map fun b => (b.map List.length).sum).sum
/-- bounds of what a Merge holds -/
structure Gm (ins : List In) (added : Nat) : Prop where
  ne : ins ≠ []
  few : ins.length ≤ 4
  bs : ∀ (i : Nat) (x : In), ins[i]? = some x → x.bs.length ≤ 61
  cnt : added = totM (ctM ins)
  most : added ≤ 60
theorem mem_sum {l : List Nat} {n : Nat} (h : n ∈ l) : n ≤ l.sum := by
  induction l with
  | nil => simp at h
  | cons a l ih =>
    rcases List.mem_cons.1 h with rfl | h
    · simp
    · have := ih h; simp; omega
theorem tot_ge {α : Type} {ins : List (List (List α))} {i k : Nat} {b : List (List α)} {l : List α} (hi : ins[i]? = some b) (hk : b[k]? = some l) : l.length ≤ totM ins := by
  have h1 : l.length ≤ (b.map List.length).sum := mem_sum (List.mem_map_of_mem (List.mem_of_getElem? hk))
  have h2 : (b.map List.length).sum ≤ totM ins := mem_sum (List.mem_map_of_mem (f := fun b => (b.map List.length).sum) (List.mem_of_getElem? hi))
  omega
theorem Gm.es {ins : List In} {added : Nat} (h : Gm ins added) {i k : Nat} {x : In} {b : Bt} (hi : ins[i]? = some x) (hk : x.bs[k]? = some b) : b.es.length ≤ 60 := by
  have h1 := tot_ge (ins := ctM ins) (i := i) (k := k) (b := ctI x) (l := b.es.map entOf) (by simp [ctM, hi]) (by simp [ctI, hk])
  rw [← h.cnt, List.length_map] at h1
  have := h.most
  omega
section
variable {w : World} {B g : Nat} {tx : Tx} {AI : Option Addr} {cI : Nat} {ins : List In} {added : Nat}
/-- an input's cell -/
theorem MG.cell_ (h : MG w B g tx AI cI ins added) {i : Nat} {x : In} (hi : ins[i]? = some x) : ∃ gi, AI = some ⟨gi, 0, none⟩ ∧ w.cell? ⟨gi, i, none⟩ = some (.slice x.A x.bs.length x.c) := by
  obtain ⟨gi, hAI, _, _⟩ := h.row_ (by intro e; rw [e] at hi; simp at hi)
  subst hAI
  obtain ⟨b', o', e, _, hc⟩ := h.row.vs i (inV x) (by rw [List.getElem?_map, hi]; rfl)
  injection e with e
  injection e with e1 e2 _
  subst e1; subst e2
  rw [Nat.zero_add] at hc
  exact ⟨gi, rfl, hc⟩
theorem MG.pos (h : MG w B g tx AI cI ins added) {i : Nat} {x : In} (hi : ins[i]? = some x) : ∃ k, x.bs.length = k + 1 := by
  cases e : x.bs with
  | nil => exact absurd e (h.ne i x hi)
  | cons b r => exact ⟨r.length, by simp⟩
end
section
variable {w : World} {B g : Nat} {tx : Tx} {AI : Option Addr} {cI : Nat} {ins : List In} {added : Nat}
/-- a batch's cell -/
theorem MG.bcell (h : MG w B g tx AI cI ins added) {i k : Nat} {x : In} {b : Bt} (hi : ins[i]? = some x) (hk : x.bs[k]? = some b) : ∃ gx, x.A = some ⟨gx, 0, none⟩ ∧ w.cell? ⟨gx, k, none⟩ = some (.slice b.A b.es.length b.c) := by
  obtain ⟨gx, hA, _, _⟩ := h.at_ hi
  have hr := h.inp i x hi
  rw [hA] at hr
  obtain ⟨b', o', e, _, hc⟩ := hr.vs k (btV b) (by rw [List.getElem?_map, hk]; rfl)
  injection e with e
  injection e with e1 e2 _
  subst e1; subst e2
  rw [Nat.zero_add] at hc
  exact ⟨gx, hA, hc⟩
end
theorem clo_ct (ins : List In) : cloL (ctM ins) = ins.map fun x => x.bs.length - 1 := by simp [cloL, ctM, ctI]
theorem slice_tail (b o n ct n1 : Nat) (hn : n = n1 + 1) (hc : n ≤ ct) (w : World) : (Instr.slice 43 (.slice (some ⟨b, o, none⟩) n ct) (some (.int .i64 1)) none none).run Tryz.prog w = .ok (.slice (if ct = 1 then some ⟨b, o, none⟩ else some ⟨b, o + 1, none⟩) n1 (ct - 1)) w := by
  have g1 : (1 : Int) ≤ (n : Int) := by omega
  have g2 : (n : Int) ≤ (ct : Int) := by omega
  obtain rfl : n1 = n - 1 := by omega
  by_cases e : ct = 1
  · subst e
    obtain rfl : n = 1 := by omega
    clear hc hn
    go_simp
  · rw [if_neg e]
    clear hn
    go_simp
set_option maxHeartbeats 1000000 in
set_option maxRecDepth 100000 in
theorem mrounds_any (B g : Nat) (tx : Tx) (AI : Option Addr) (cI : Nat) (ins : List In) (added : Nat) (w : World) (h : MG w B g tx AI cI ins added) (hG : Gm ins added) :
    Calls Tryz.prog 63 #[.pointer (some ⟨g, 0, none⟩)] w fun e w' => e = .returned (.int .i64 (rndM (ctM ins) : Nat)) ∧ w = w' := by
  have c0 := h.c0
  obtain ⟨n1, hn1⟩ : ∃ n1, ins.length = n1 + 1 := by
    cases e : ins with
    | nil => exact absurd e hG.ne
    | cons a r => exact ⟨r.length, by simp⟩
  have hcap := h.row.caps.1
  rw [List.length_map] at hcap
  obtain ⟨x0, hx0⟩ : ∃ x, ins[0]? = some x := ⟨_, List.getElem?_eq_getElem (by omega)⟩
  obtain ⟨gi, hAI, p0⟩ := h.cell_ hx0
  subst hAI
  have hsl := fun w => slice_tail gi 0 ins.length cI n1 hn1 hcap w
  obtain ⟨k0, hk0⟩ := h.pos hx0
  have hb0 := hG.bs 0 x0 hx0
  have HC0 := hideP (fun W => closed_any x0.A x0.bs.length x0.c k0 hk0 (by omega) W)
  have HST := hideP (show (((cloL (ctM ins)).take 1).foldl min 60 : Nat) = k0 by
    have : (cloL (ctM ins))[0]? = some k0 := by rw [clo_ct, List.getElem?_map, hx0]; simp [hk0]
    rw [List.take_one, List.head?_eq_getElem?, this]
    simp; omega)
  have HEND := hideP (show ((cloL (ctM ins)).take (n1 + 1)).foldl min 60 = rndM (ctM ins) by
    unfold rndM; rw [List.take_of_length_le (by rw [clo_ct, List.length_map]; omega)])
  have HCE := hideP (fun (k : Nat) (hk : k < n1) => show ∃ (A : Option Addr) (n c q : Nat), w.cell? ⟨gi, 1 + k, none⟩ = some (.slice A n c) ∧ n = q + 1 ∧ n ≤ 61 ∧ ((cloL (ctM ins)).take (k + 1 + 1)).foldl min 60 = min (((cloL (ctM ins)).take (k + 1)).foldl min 60) q from by
    obtain ⟨x, hx⟩ : ∃ x, ins[1 + k]? = some x := ⟨_, List.getElem?_eq_getElem (by omega)⟩
    obtain ⟨gi', e, hc⟩ := h.cell_ hx
    injection e with e
    injection e with e
    subst e
    obtain ⟨q, hq⟩ := h.pos hx
    have hcl : (cloL (ctM ins))[k + 1]? = some q := by rw [clo_ct, List.getElem?_map, Nat.add_comm k 1, hx]; simp [hq]
    refine ⟨_, _, _, q, hc, hq, hG.bs _ x hx, ?_⟩
    have hl : k + 1 < (cloL (ctM ins)).length := (List.getElem?_eq_some_iff.1 hcl).1
    rw [List.take_succ_eq_append_getElem hl, List.foldl_append]
    rw [List.getElem?_eq_getElem hl] at hcl
    injection hcl with hcl
    rw [hcl]
    rfl)
  have d0 : ((ins.length : Int) == 0) = false := beq_eq_false_iff_ne.2 (by omega)
  have g1 : (0 : Int) < (ins.length : Int) := by omega
  have HN1 := hideP hn1
  have hct : cI = 1 → n1 = 0 := fun e => by omega
  have hn4 : n1 ≤ 4 := by have := hG.few; omega
  generalize cloL (ctM ins) = cl at HST HEND HCE
  generalize rndM (ctM ins) = rr at HEND ⊢
  generalize x0.bs.length = m0 at p0 HC0 hk0 hb0
  clear h hcap hG hx0 hn1 hk0 hb0
  go_enter Tryz.func63, Tryz.ntmps63
  go_wp2_with fail
  refine (HC0.out _).mono ?_
  rintro e w' ⟨rfl, rfl⟩
  clear HC0
  obtain ⟨T, hT⟩ : ∃ T, (if cI = 1 then some (⟨gi, 0, none⟩ : Addr) else some ⟨gi, 0 + 1, none⟩) = T := ⟨_, rfl⟩
  rw [hT] at hsl
  have HT := hideP hT
  clear hT
  go_wp2_with fail
  go_loop [3, 25] (fun v i => ∃ k : Nat, k ≤ n1 ∧ i = .int .i64 k ∧ v = .int .i64 ((cl.take (k + 1)).foldl min 60 : Nat)) (fun _ i => n1 - (intOf i).toNat)
  case atStart => exact ⟨0, Nat.zero_le _, rfl, by rw [HST.out]⟩
  case round =>
    obtain ⟨k, hk, rfl, rfl⟩ := hrel
    by_cases hlt : k < n1
    · obtain ⟨A, n, c, q, hc, hq, hn, hst⟩ := HCE.out k hlt
      have hT2 : T = some ⟨gi, 1, none⟩ := by
        rw [← HT.out, if_neg (fun e => by have := hct e; omega)]
      subst hT2
      have HC := hideP (fun W => closed_any A n c q hq (by omega) W)
      have HS := hideP hst
      clear hst hq hn
      generalize (cl.take (k + 1)).foldl min 60 = z at HS ⊢
      have g2 : (0 : Int) ≤ (k : Int) := by omega
      have g3 : (k : Int) < (n1 : Int) := by omega
      go_wp2_with fail
      refine (HC.out _).mono ?_
      rintro e w' ⟨rfl, rfl⟩
      go_wp2_with fail
      go_round
      case rel => exact ⟨k + 1, by omega, by go_num, by rw [HS.out]; congr 1; omega⟩
      case measure => simp [intOf]; omega
    · obtain rfl : k = n1 := by omega
      rw [HEND.out]
      go_wp2_with fail
      go_ret
      exact ⟨rfl, rfl⟩
end Go.Proofs.YtcopmdgcjnkiaaaGreat

set_option linter.unusedVariables false
set_option linter.unusedSimpArgs false
namespace Go.Proofs.YtcopmdgcjnkiaaaGreat
open Go.RowKit

section
variable {α : Type}
def totB (b : List (List α)) : Nat := (b.map List.length).sum
theorem tot_modify (ins : List (List (List α))) : ∀ (i : Nat) (b : List (List α)) (f : List (List α) → List (List α)), ins[i]? = some b → totM (ins.modify i f) + totB b = totM ins + totB (f b) := by
  induction ins with
  | nil => intro i b f h; simp at h
  | cons a r ih =>
    intro i b f h
    cases i with
    | zero => simp at h; subst h; simp [totM, totB]; omega
    | succ i =>
      simp at h
      have := ih i b f h
      simp only [totM, List.modify_succ_cons, List.map_cons, List.sum_cons] at this ⊢
      omega
theorem totB_modify (b : List (List α)) : ∀ (k : Nat) (x : α), k < b.length → totB (b.modify k (· ++ [x])) = totB b + 1 := by
  induction b with
  | nil => intro k x h; simp at h
  | cons a r ih =>
    intro k x h
    cases k with
    | zero => simp [totB]; omega
    | succ k =>
      have := ih k x (by simp at h; omega)
      simp only [totB, List.modify_succ_cons, List.map_cons, List.sum_cons] at this ⊢
      omega
theorem tot_add {ins : List (List (List α))} {i : Nat} {b : List (List α)} (x : α) (h : ins[i]? = some b) (hb : b ≠ []) : totM (addM ins i x) = totM ins + 1 := by
  have h1 := tot_modify ins i b (fun b => b.modify (b.length - 1) (· ++ [x])) h
  have h2 := totB_modify b (b.length - 1) x (by have := List.length_pos_iff.2 hb; omega)
  unfold addM
  omega
theorem tot_close {ins : List (List (List α))} {i : Nat} {b : List (List α)} (h : ins[i]? = some b) : totM (closeM ins i) = totM ins := by
  have h1 := tot_modify ins i b (· ++ [[]]) h
  have h2 : totB (b ++ [[]]) = totB b := by simp [totB]
  unfold closeM
  omega
/-- the error of Close, the number, what is held behind it -/
def closeQ (ct : List (List (List α))) (i : Int) : Int := if 0 ≤ i ∧ i < (ct.length : Int) then (if 61 ≤ ((ct[i.toNat]?).getD []).length then 2 else 0) else 4
def closeN (ct : List (List (List α))) (i : Int) : Int := if closeQ ct i = 0 then (((ct[i.toNat]?).getD []).length : Int) else 0
def closeC (ct : List (List (List α))) (i : Int) : List (List (List α)) := if closeQ ct i = 0 then closeM ct i.toNat else ct
theorem closeQ_ok {ct : List (List (List α))} {i : Nat} {b : List (List α)} (h : ct[i]? = some b) (hb : b.length ≤ 60) : closeQ ct (i : Int) = 0 ∧ closeN ct (i : Int) = (b.length : Int) ∧ closeC ct (i : Int) = closeM ct i := by
  have hi : i < ct.length := (List.getElem?_eq_some_iff.1 h).1
  have hq : closeQ ct (i : Int) = 0 := by
    unfold closeQ
    rw [if_pos (by omega), Int.toNat_natCast, h]
    simp only [Option.getD_some]
    rw [if_neg (by omega)]
  exact ⟨hq, by unfold closeN; rw [if_pos hq, Int.toNat_natCast, h]; rfl, by unfold closeC; rw [if_pos hq, Int.toNat_natCast]⟩
theorem closeQ_full {ct : List (List (List α))} {i : Nat} {b : List (List α)} (h : ct[i]? = some b) (hb : 61 ≤ b.length) : closeQ ct (i : Int) = 2 ∧ closeN ct (i : Int) = 0 ∧ closeC ct (i : Int) = ct := by
  have hi : i < ct.length := (List.getElem?_eq_some_iff.1 h).1
  have hq : closeQ ct (i : Int) = 2 := by
    unfold closeQ
    rw [if_pos (by omega), Int.toNat_natCast, h]
    simp only [Option.getD_some]
    rw [if_pos (by omega)]
  exact ⟨hq, by unfold closeN; rw [if_neg (by rw [hq]; decide)], by unfold closeC; rw [if_neg (by rw [hq]; decide)]⟩
theorem closeQ_none {ct : List (List (List α))} {i : Int} (h : ¬ (0 ≤ i ∧ i < (ct.length : Int))) : closeQ ct i = 4 ∧ closeN ct i = 0 ∧ closeC ct i = ct := by
  have hq : closeQ ct i = 4 := by unfold closeQ; rw [if_neg h]
  exact ⟨hq, by unfold closeN; rw [if_neg (by rw [hq]; decide)], by unfold closeC; rw [if_neg (by rw [hq]; decide)]⟩
end
/-- the error of Add, what is held behind it -/
def addQ (ct : List (List (List Ent))) (i : Int) (x : Ent) : Int := if 0 ≤ i ∧ i < (ct.length : Int) then (if chkE x = 0 then (if 60 ≤ totM ct then 2 else 0) else chkE x) else 4
def addC (ct : List (List (List Ent))) (i : Int) (x : Ent) : List (List (List Ent)) := if addQ ct i x = 0 then addM ct i.toNat (dropE x) else ct

/-- a Merge: where it lies -/
structure Ms where
  g : Nat
  x : Tx
  AI : Option Addr
  cI : Nat
  ins : List In
  added : Nat
def Ms.F (s : Ms) (k : Nat) : Prop := CF s.g s.AI s.ins k
def Ms.ct (s : Ms) : List (List (List Ent)) := ctM s.ins
structure Ms.Ok (s : Ms) (w : World) (B : Nat) : Prop where
  mg : MG w B s.g s.x s.AI s.cI s.ins s.added
  gm : Gm s.ins s.added
/-- a step of a Merge -/
structure Ms.To (s : Ms) (w : World) (B : Nat) (s' : Ms) (w' : World) (ct' : List (List (List Ent))) : Prop where
  g : s'.g = s.g
  x : s'.x = s.x
  ok : s'.Ok w' B
  ct : s'.ct = ct'
  fr : Fr s.F w w'
  F : ∀ k, s'.F k → s.F k ∨ w.heap.size ≤ k
section
variable {s s' s2 : Ms} {w w1 w' : World} {B B' : Nat} {ct' ct2 : List (List (List Ent))}
theorem Ms.Ok.below (h : s.Ok w B) (hb : Below w.heap.size w w') : s.Ok w' B := ⟨h.mg.below hb, h.gm⟩
theorem Ms.Ok.mono (h : s.Ok w B) (hB : B' ≤ B) : s.Ok w B' := ⟨h.mg.mono hB, h.gm⟩
theorem Ms.Ok.lo (h : s.Ok w B) {k : Nat} (hk : s.F k) : B ≤ k ∧ k < w.heap.size := (h.mg.cf_ty hk).2
theorem Ms.Ok.size (h : s.Ok w B) : B ≤ w.heap.size := by have := h.mg.low; have := h.mg.box.lt; omega
theorem Ms.Ok.fr {F : Nat → Prop} (h : s.Ok w B) (hf : Fr F w w') (hd : ∀ q, s.F q → ¬ F q) (o1 : Off F w 80) (o2 : Off F w 9) (o3 : Off F w 3) : s.Ok w' B := ⟨h.mg.fr hf hd o1 o2 o3, h.gm⟩
theorem Ms.To.mono (h : s.To w B s' w' ct') (hB : B' ≤ B) : s.To w B' s' w' ct' := ⟨h.g, h.x, h.ok.mono hB, h.ct, h.fr, h.F⟩
theorem Ms.To.same (h : s.Ok w B) (hb : Below w.heap.size w w') : s.To w B s w' s.ct := ⟨rfl, rfl, h.below hb, rfl, .of_below hb, fun _ => .inl⟩
theorem Ms.To.pre (h : s.To w1 B s' w' ct') (hb : Below w.heap.size w w1) : s.To w B s' w' ct' := ⟨h.g, h.x, h.ok, h.ct, (Fr.of_below hb).comp h.fr, fun k hk => (h.F k hk).imp id fun e => Nat.le_trans hb.size e⟩
theorem Ms.To.post (h : s.To w B s' w1 ct') (hb : Below w1.heap.size w1 w') : s.To w B s' w' ct' := ⟨h.g, h.x, h.ok.below hb, h.ct, h.fr.comp (.of_below hb), h.F⟩
theorem Ms.To.trans (h : s.To w B s' w1 ct') (h2 : s'.To w1 B s2 w' ct2) : s.To w B s2 w' ct2 :=
  ⟨h2.g.trans h.g, h2.x.trans h.x, h2.ok, h2.ct, h.fr.trans h2.fr h.F, fun k hk => (h2.F k hk).elim (h.F k) fun e => .inr (Nat.le_trans h.fr.size e)⟩
/-- below the Merge nothing changes -/
theorem Ms.To.below_ {a : World} {B0 : Nat} (h : s.To w B s' w' ct') (ho : s.Ok w B) (hB : B0 ≤ B) (hb : Below B0 a w) : Below B0 a w' := h.fr.below (fun k hk => Nat.le_trans hB (ho.lo hk).1) (Nat.le_trans hB ho.size) hb
/-- what lies apart from a Merge -/
theorem Ms.Ok.off (h : s.Ok w B) {t : TypeId} (h0 : t ≠ 48) (h1 : t ≠ 45) (h2 : t ≠ 102) (h3 : t ≠ 100) (h4 : t ≠ 41) : Off s.F w t := h.mg.off h0 h1 h2 h3 h4
end
/-- a row of entries lies apart from a Merge -/
def Apa (s : Ms) (A : Option Addr) : Prop := ∀ k, blk A = some k → ¬ s.F k
theorem EW.to_ {s s' : Ms} {w w' : World} {B B' : Nat} {ct' : List (List (List Ent))} {A : Option Addr} {c : Nat} {xs : List Em} (h : EW w B' A c xs) (ho : s.Ok w B) (ht : s.To w B s' w' ct') (ha : Apa s A) : EW w' B' A c xs ∧ Apa s' A :=
  ⟨⟨ht.fr.own h.row fun k hk => ha k (ob hk), fun x hx => ⟨ht.fr.own_ty (h.eo x hx).ops (ho.off (by decide) (by decide) (by decide) (by decide) (by decide)), ⟨ht.fr.own_ty (h.eo x hx).map.cuts (ho.off (by decide) (by decide) (by decide) (by decide) (by decide)), ht.fr.own_ty (h.eo x hx).map.own (ho.off (by decide) (by decide) (by decide) (by decide) (by decide))⟩⟩, h.bd⟩,
    fun k hk hF => (ht.F k hF).elim (ha k hk) fun e => by have := (World.ownsRow.lt h.row k (bo _ _ hk)).2; omega⟩
end Go.Proofs.YtcopmdgcjnkiaaaGreat
