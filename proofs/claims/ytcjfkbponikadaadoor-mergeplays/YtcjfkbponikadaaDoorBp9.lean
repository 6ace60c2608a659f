/-
  (*merge.Merge).Rounds.
-/
import Derived.Test.YtcjfkbponikadaaDoorBp8
import Derived.Lib.MinMax
set_option linter.unusedVariables false
set_option linter.unusedSimpArgs false
namespace Go.Proofs.YtcjfkbponikadaaDoor
open Go.RowKit

/-- all entries of a Merge -/
def totM {α : Type} (ins : List (List (List α))) : Nat := (ins.map fun b => (b.map List.length).sum).sum
/-- bounds of what a Merge holds -/
structure Gm (ins : List In) (added : Nat) : Prop where
  ne : ins ≠ []
  few : ins.length ≤ 4
  bs : ∀ (i : Nat) (x : In), ins[i]? = some x → x.bs.length ≤ 61
  cnt : added = totM (ctM ins)
  most : added ≤ 60
theorem mem_sum {l : List Nat} {n : Nat} (h : n ∈ l) : n ≤ l.sum := by
  induction l with
  | nil => simp at h
  | cons a l ih =>
    rcases List.mem_cons.1 h with rfl | h
    · simp
    · have := ih h; simp; omega
theorem tot_ge {α : Type} {ins : List (List (List α))} {i k : Nat} {b : List (List α)} {l : List α} (hi : ins[i]? = some b) (hk : b[k]? = some l) : l.length ≤ totM ins := by
  have h1 : l.length ≤ (b.map List.length).sum := mem_sum (List.mem_map_of_mem (List.mem_of_getElem? hk))
  have h2 : (b.map List.length).sum ≤ totM ins := mem_sum (List.mem_map_of_mem (f := fun b => (b.map List.length).sum) (List.mem_of_getElem? hi))
  omega
theorem Gm.es {ins : List In} {added : Nat} (h : Gm ins added) {i k : Nat} {x : In} {b : Bt} (hi : ins[i]? = some x) (hk : x.bs[k]? = some b) : b.es.length ≤ 60 := by
  have h1 := tot_ge (ins := ctM ins) (i := i) (k := k) (b := ctI x) (l := b.es.map entOf) (by simp [ctM, hi]) (by simp [ctI, hk])
  rw [← h.cnt, List.length_map] at h1
  have := h.most
  omega
section
variable {w : World} {B g : Nat} {AI : Option Addr} {cI : Nat} {ins : List In} {added : Nat}
/-- an input's cell -/
theorem MG.cell_ (h : MG w B g AI cI ins added) {i : Nat} {x : In} (hi : ins[i]? = some x) : ∃ gi, AI = some ⟨gi, 0, none⟩ ∧ w.cell? ⟨gi, i, none⟩ = some (.slice x.A x.bs.length x.c) := by
  obtain ⟨gi, hAI, _, _⟩ := h.row_ (by intro e; rw [e] at hi; simp at hi)
  subst hAI
  obtain ⟨b', o', e, _, hc⟩ := h.row.vs i (inV x) (by rw [List.getElem?_map, hi]; rfl)
  injection e with e
  injection e with e1 e2 _
  subst e1; subst e2
  rw [Nat.zero_add] at hc
  exact ⟨gi, rfl, hc⟩
theorem MG.pos (h : MG w B g AI cI ins added) {i : Nat} {x : In} (hi : ins[i]? = some x) : ∃ k, x.bs.length = k + 1 := by
  cases e : x.bs with
  | nil => exact absurd e (h.ne i x hi)
  | cons b r => exact ⟨r.length, by simp⟩
end
section
variable {w : World} {B g : Nat} {AI : Option Addr} {cI : Nat} {ins : List In} {added : Nat}
/-- a batch's cell -/
theorem MG.bcell (h : MG w B g AI cI ins added) {i k : Nat} {x : In} {b : Bt} (hi : ins[i]? = some x) (hk : x.bs[k]? = some b) : ∃ gx, x.A = some ⟨gx, 0, none⟩ ∧ w.cell? ⟨gx, k, none⟩ = some (.slice b.A b.es.length b.c) := by
  obtain ⟨gx, hA, _, _⟩ := h.at_ hi
  have hr := h.inp i x hi
  rw [hA] at hr
  obtain ⟨b', o', e, _, hc⟩ := hr.vs k (btV b) (by rw [List.getElem?_map, hk]; rfl)
  injection e with e
  injection e with e1 e2 _
  subst e1; subst e2
  rw [Nat.zero_add] at hc
  exact ⟨gx, hA, hc⟩
end
theorem clo_ct (ins : List In) : cloL (ctM ins) = ins.map fun x => x.bs.length - 1 := by simp [cloL, ctM, ctI]
theorem slice_tail (b o n ct n1 : Nat) (hn : n = n1 + 1) (hc : n ≤ ct) (w : World) : (Instr.slice 51 (.slice (some ⟨b, o, none⟩) n ct) (some (.int .i64 1)) none none).run Tryd.prog w = .ok (.slice (if ct = 1 then some ⟨b, o, none⟩ else some ⟨b, o + 1, none⟩) n1 (ct - 1)) w := by
  have g1 : (1 : Int) ≤ (n : Int) := by omega
  have g2 : (n : Int) ≤ (ct : Int) := by omega
  obtain rfl : n1 = n - 1 := by omega
  by_cases e : ct = 1
  · subst e
    obtain rfl : n = 1 := by omega
    clear hc hn
    go_simp
  · rw [if_neg e]
    clear hn
    go_simp
set_option maxHeartbeats 1000000 in
set_option maxRecDepth 100000 in
theorem mrounds_any (B g : Nat) (AI : Option Addr) (cI : Nat) (ins : List In) (added : Nat) (w : World) (h : MG w B g AI cI ins added) (hG : Gm ins added) :
    Calls Tryd.prog 14 #[.pointer (some ⟨g, 0, none⟩)] w fun e w' => e = .returned (.int .i64 (rndM (ctM ins) : Nat)) ∧ w = w' := by
  have c0 := h.box.cell 0 (v := .slice AI ins.length cI) rfl
  obtain ⟨n1, hn1⟩ : ∃ n1, ins.length = n1 + 1 := by
    cases e : ins with
    | nil => exact absurd e hG.ne
    | cons a r => exact ⟨r.length, by simp⟩
  have hcap := h.row.caps.1
  rw [List.length_map] at hcap
  obtain ⟨x0, hx0⟩ : ∃ x, ins[0]? = some x := ⟨_, List.getElem?_eq_getElem (by omega)⟩
  obtain ⟨gi, hAI, p0⟩ := h.cell_ hx0
  subst hAI
  have hsl := fun w => slice_tail gi 0 ins.length cI n1 hn1 hcap w
  obtain ⟨k0, hk0⟩ := h.pos hx0
  have hb0 := hG.bs 0 x0 hx0
  have HC0 := hideP (fun W => closed_any x0.A x0.bs.length x0.c k0 hk0 (by omega) W)
  have HST := hideP (show (((cloL (ctM ins)).take 1).foldl min 60 : Nat) = k0 by
    have : (cloL (ctM ins))[0]? = some k0 := by rw [clo_ct, List.getElem?_map, hx0]; simp [hk0]
    rw [List.take_one, List.head?_eq_getElem?, this]
    simp; omega)
  have HEND := hideP (show ((cloL (ctM ins)).take (n1 + 1)).foldl min 60 = rndM (ctM ins) by
    unfold rndM; rw [List.take_of_length_le (by rw [clo_ct, List.length_map]; omega)])
  have HCE := hideP (fun (k : Nat) (hk : k < n1) => show ∃ (A : Option Addr) (n c q : Nat), w.cell? ⟨gi, 1 + k, none⟩ = some (.slice A n c) ∧ n = q + 1 ∧ n ≤ 61 ∧ ((cloL (ctM ins)).take (k + 1 + 1)).foldl min 60 = min (((cloL (ctM ins)).take (k + 1)).foldl min 60) q from by
    obtain ⟨x, hx⟩ : ∃ x, ins[1 + k]? = some x := ⟨_, List.getElem?_eq_getElem (by omega)⟩
    obtain ⟨gi', e, hc⟩ := h.cell_ hx
    injection e with e
    injection e with e
    subst e
    obtain ⟨q, hq⟩ := h.pos hx
    have hcl : (cloL (ctM ins))[k + 1]? = some q := by rw [clo_ct, List.getElem?_map, Nat.add_comm k 1, hx]; simp [hq]
    refine ⟨_, _, _, q, hc, hq, hG.bs _ x hx, ?_⟩
    have hl : k + 1 < (cloL (ctM ins)).length := (List.getElem?_eq_some_iff.1 hcl).1
    rw [List.take_succ_eq_append_getElem hl, List.foldl_append]
    rw [List.getElem?_eq_getElem hl] at hcl
    injection hcl with hcl
    rw [hcl]
    rfl)
  have d0 : ((ins.length : Int) == 0) = false := beq_eq_false_iff_ne.2 (by omega)
  have g1 : (0 : Int) < (ins.length : Int) := by omega
  have HN1 := hideP hn1
  have hct : cI = 1 → n1 = 0 := fun e => by omega
  have hn4 : n1 ≤ 4 := by have := hG.few; omega
  generalize cloL (ctM ins) = cl at HST HEND HCE
  generalize rndM (ctM ins) = rr at HEND ⊢
  generalize x0.bs.length = m0 at p0 HC0 hk0 hb0
  clear h hcap hG hx0 hn1 hk0 hb0
  go_enter Tryd.func14, Tryd.ntmps14
  go_wp2_with fail
  refine (HC0.out _).mono ?_
  rintro e w' ⟨rfl, rfl⟩
  clear HC0
  obtain ⟨T, hT⟩ : ∃ T, (if cI = 1 then some (⟨gi, 0, none⟩ : Addr) else some ⟨gi, 0 + 1, none⟩) = T := ⟨_, rfl⟩
  rw [hT] at hsl
  have HT := hideP hT
  clear hT
  go_wp2_with fail
  go_loop [3, 25] (fun v i => ∃ k : Nat, k ≤ n1 ∧ i = .int .i64 k ∧ v = .int .i64 ((cl.take (k + 1)).foldl min 60 : Nat)) (fun _ i => n1 - (intOf i).toNat)
  case atStart => exact ⟨0, Nat.zero_le _, rfl, by rw [HST.out]⟩
  case round =>
    obtain ⟨k, hk, rfl, rfl⟩ := hrel
    by_cases hlt : k < n1
    · obtain ⟨A, n, c, q, hc, hq, hn, hst⟩ := HCE.out k hlt
      have hT2 : T = some ⟨gi, 1, none⟩ := by
        rw [← HT.out, if_neg (fun e => by have := hct e; omega)]
      subst hT2
      have HC := hideP (fun W => closed_any A n c q hq (by omega) W)
      have HS := hideP hst
      clear hst hq hn
      generalize (cl.take (k + 1)).foldl min 60 = z at HS ⊢
      have g2 : (0 : Int) ≤ (k : Int) := by omega
      have g3 : (k : Int) < (n1 : Int) := by omega
      go_wp2_with fail
      refine (HC.out _).mono ?_
      rintro e w' ⟨rfl, rfl⟩
      go_wp2_with fail
      go_round
      case rel => exact ⟨k + 1, by omega, by go_num, by rw [HS.out]; congr 1; omega⟩
      case measure => simp [intOf]; omega
    · obtain rfl : k = n1 := by omega
      rw [HEND.out]
      go_wp2_with fail
      go_ret
      exact ⟨rfl, rfl⟩
end Go.Proofs.YtcjfkbponikadaaDoor
