/-
  deed.Check: what it answers.
  merge's small functions: closed, has, check.
  (*merge.Merge).Rounds.
  A Merge as a state, and what its steps make of what it holds (no body of the program in it).
  What a Merge's log holds (no body of the program in it).
-/
import Derived.Test.YtefdipjhjgmokaaGreatDoorBy5
import Derived.Lib.MinMax
set_option linter.unusedVariables false
set_option linter.unusedSimpArgs false
namespace Go.Proofs.YtefdipjhjgmokaaGreatDoor
open Go.RowKit

set_option maxHeartbeats 400000 in
theorem dcheck_any (A : Option Addr) (c : Nat) (l : List Opr) (w : World) (hA : OS w w.heap.size A l) :
    Calls Tryz.prog 117 #[.agg #[.slice A l.length c]] w fun e w' => e = .returned (.int .i64 (chkD l)) ∧ Below w.heap.size w w' := by
  have HB := (Below.refl w.heap.size w).alloc (Nat.le_refl _) (.cells #[.slice A l.length c] 40)
  by_cases h1 : l.length < 1
  · have HC := hideP (show chkD l = 2 by simp [chkD, h1])
    have h1' : (l.length : Int) < 1 := by omega
    go_enter Tryz.func117, Tryz.ntmps117
    go_wp2_with fail
    go_ret
    exact ⟨ret_int HC.out.symm, HB⟩
  have h1' : ¬ (l.length : Int) < 1 := by omega
  by_cases h2 : 8 < l.length
  · have HC := hideP (show chkD l = 2 by simp [chkD, h1, h2])
    have h2' : (8 : Int) < (l.length : Int) := by omega
    go_enter Tryz.func117, Tryz.ntmps117
    go_wp2_with fail
    go_ret
    exact ⟨ret_int HC.out.symm, HB⟩
  have h2' : ¬ (8 : Int) < (l.length : Int) := by omega
  have HC := hideP (show chkD l = chkOs l by simp [chkD, h1, h2])
  go_enter Tryz.func117, Tryz.ntmps117
  go_wp2_with fail
  go_loopw [19] (fun i wr => ∃ k : Nat, k ≤ l.length ∧ i = .int .i64 k ∧ chkOs l = chkOs (l.drop k) ∧ Below w.heap.size w wr) (fun i _ => l.length - (intOf i).toNat)
  case atStart => exact ⟨0, Nat.zero_le _, rfl, rfl, HB⟩
  case round =>
    obtain ⟨k, hk, rfl, hchk, hb⟩ := hrel
    by_cases hlt : k < l.length
    · rw [chkOs_next hlt] at hchk
      obtain ⟨b, o, rfl, hbl, c1, c2, c3, c4⟩ := hA.below hb k _ (List.getElem?_eq_getElem hlt)
      clear hA HB
      generalize l[k] = p at c1 c2 c3 c4 hchk
      have HK := hideP hchk
      clear hchk
      have hb2 := (hb.alloc hb.size (.cells #[.int .i64 p.kind, .string p.key, .string p.src, .int .i64 p.n] 71))
      go_wp2_with fail
      refine (checkOp_any p _).mono ?_
      rintro e w3 ⟨rfl, hb3⟩
      have hb4 := hb2.trans (hb3.mono hb2.size)
      clear hb hb2 hb3
      by_cases h0 : chkO p = 0
      · have H0 := hideP h0
        rw [h0]
        clear h0
        go_wp2_with fail
        go_roundw
        case rel => exact ⟨k + 1, by omega, by go_num, by rw [HK.out, if_pos H0.out], hb4⟩
        case measure => simp [intOf]; omega
      · have H0 := hideP h0
        have d0 : (chkO p != 0) = true := by simp [h0]
        clear h0
        generalize hq : chkO p = q at d0
        have HQ := hideP hq
        clear hq
        go_wp2_with fail
        go_ret
        exact ⟨ret_int (by rw [HC.out, HK.out, if_neg H0.out, HQ.out]), hb4⟩
    · go_wp2_with fail
      go_ret
      exact ⟨ret_int (by rw [HC.out, hchk, List.drop_of_length_le (by omega)]; rfl), hb⟩
end Go.Proofs.YtefdipjhjgmokaaGreatDoor

set_option linter.unusedVariables false
set_option linter.unusedSimpArgs false
namespace Go.Proofs.YtefdipjhjgmokaaGreatDoor
open Go.RowKit

set_option maxRecDepth 100000 in
theorem closed_any (A : Option Addr) (n c k : Nat) (hk : n = k + 1) (hl : n ≤ 9223372036854775807) (w : World) :
    Calls Tryz.prog 90 #[.slice A n c] w fun e w' => e = .returned (.int .i64 (k : Int)) ∧ w = w' := by
  have g1 : IntKind.i64.wrap ((n : Int) - 1) = (k : Int) := by simp only [IntKind.wrap_i64]; omega
  go_enter Tryz.func90, Tryz.ntmps90
  go_wp2
  go_ret
  exact ⟨ret_int (by omega), rfl⟩
set_option maxRecDepth 100000 in
theorem has_any (B g : Nat) (tx : Tx) (AI : Option Addr) (cI : Nat) (ins : List In) (added : Nat) (i : Int) (w : World) (h : MG w B g tx AI cI ins added) :
    Calls Tryz.prog 88 #[.pointer (some ⟨g, 0, none⟩), .int .i64 i] w fun e w' => e = .returned (.bool (decide (0 ≤ i ∧ i < (ins.length : Int)))) ∧ w = w' := by
  have c0 := h.c0
  clear h
  by_cases h1 : 0 ≤ i
  · by_cases h2 : i < (ins.length : Int)
    · have HD := hideP (show decide (0 ≤ i ∧ i < (ins.length : Int)) = true from decide_eq_true ⟨h1, h2⟩)
      go_enter Tryz.func88, Tryz.ntmps88
      go_wp2_with fail
      go_ret
      first | exact ⟨rfl, rfl⟩ | exact ⟨by rw [HD.out]; rfl, rfl⟩
    · have HD := hideP (show decide (0 ≤ i ∧ i < (ins.length : Int)) = false from decide_eq_false fun e => h2 e.2)
      have h3 : decide (i < (ins.length : Int)) = false := decide_eq_false h2
      go_enter Tryz.func88, Tryz.ntmps88
      go_wp2_with fail
      go_ret
      first | exact ⟨rfl, rfl⟩ | exact ⟨by rw [HD.out]; rfl, rfl⟩
  · have HD := hideP (show decide (0 ≤ i ∧ i < (ins.length : Int)) = false from decide_eq_false fun e => h1 e.1)
    have h3 : decide (0 ≤ i) = false := decide_eq_false h1
    go_enter Tryz.func88, Tryz.ntmps88
    go_wp2_with fail
    go_ret
    first | exact ⟨rfl, rfl⟩ | exact ⟨by rw [HD.out]; rfl, rfl⟩
set_option maxHeartbeats 1000000 in
set_option maxRecDepth 100000 in
theorem mcheck_any (x : Em) (w : World) (hx : ES w x) :
    Calls Tryz.prog 89 #[emV x] w fun e w' => e = .returned (.int .i64 (chkE (entOf x))) ∧ Below w.heap.size w w' := by
  have b0 := (Below.refl w.heap.size w).alloc (Nat.le_refl _) (.cells (emC x) 42)
  have x0 := Box.new w 42 (emC x)
  have hx1 := hx.below b0
  obtain ⟨D, c, d, isM, ⟨A, ca, cs, O, co, os⟩⟩ := x
  unfold emV
  unfold emC at b0 x0 hx1 ⊢
  simp only at b0 x0 hx1 ⊢
  have c0 := x0.cell 0 (v := .slice D d.length c) rfl
  have c1 := x0.cell 1 (v := .bool isM) rfl
  have c2 := x0.cell 2 (v := .slice A cs.length ca) rfl
  have c3 := x0.cell 3 (v := .slice O os.length co) rfl
  have hle : os.length ≤ 9223372036854775807 := by have := hx1.map.lo; have := hx1.map.mo; simp only [maxLen] at *; omega
  have HD := hideP (dcheck_any D c d _ hx1.ops)
  have HM := hideP (shcheck_any _ _ hx1.map hle)
  simp only at HM
  clear hx hx1 x0
  cases isM
  · have HK := hideP (show chkE (entOf ⟨D, c, d, false, ⟨A, ca, cs, O, co, os⟩⟩) = chkD d from rfl)
    go_enter Tryz.func89, Tryz.ntmps89
    go_wp2_with fail
    refine HD.out.mono ?_
    clear HD HM
    generalize w.alloc _ = w1 at b0 ⊢
    rintro e w2 ⟨rfl, hb2⟩
    have b2 := b0.trans (hb2.mono b0.size)
    go_wp2_with fail
    go_ret
    exact ⟨by rw [HK.out]; rfl, b2⟩
  · have HK := hideP (show chkE (entOf ⟨D, c, d, true, ⟨A, ca, cs, O, co, os⟩⟩) = chkM cs os from rfl)
    go_enter Tryz.func89, Tryz.ntmps89
    go_wp2_with fail
    refine HM.out.mono ?_
    clear HD HM
    generalize w.alloc _ = w1 at b0 ⊢
    rintro e w2 ⟨rfl, hb2⟩
    have b2 := b0.trans (hb2.mono b0.size)
    go_wp2_with fail
    go_ret
    exact ⟨by rw [HK.out]; rfl, b2⟩
end Go.Proofs.YtefdipjhjgmokaaGreatDoor

set_option linter.unusedVariables false
set_option linter.unusedSimpArgs false
namespace Go.Proofs.YtefdipjhjgmokaaGreatDoor
open Go.RowKit

/-- all entries of a Merge -/
def totM {α : Type} (ins : List (List (List α))) : Nat := (ins.map fun b => (b.map List.length).sum).sum
/-- bounds of what a Merge holds -/
structure Gm (ins : List In) (added : Nat) : Prop where
  ne : ins ≠ []
  few : ins.length ≤ 4
  bs : ∀ (i : Nat) (x : In), ins[i]? = some x → x.bs.length ≤ 61
  cnt : added = totM (ctM ins)
  most : added ≤ 60
theorem mem_sum {l : List Nat} {n : Nat} (h : n ∈ l) : n ≤ l.sum := by
  induction l with
  | nil => simp at h
  | cons a l ih =>
    rcases List.mem_cons.1 h with rfl | h
    · simp
    · have := ih h; simp; omega
theorem tot_ge {α : Type} {ins : List (List (List α))} {i k : Nat} {b : List (List α)} {l : List α} (hi : ins[i]? = some b) (hk : b[k]? = some l) : l.length ≤ totM ins := by
  have h1 : l.length ≤ (b.map List.length).sum := mem_sum (List.mem_map_of_mem (List.mem_of_getElem? hk))
  have h2 : (b.map List.length).sum ≤ totM ins := mem_sum (List.mem_map_of_mem (f := fun b => (b.map List.length).sum) (List.mem_of_getElem? hi))
  omega
theorem Gm.es {ins : List In} {added : Nat} (h : Gm ins added) {i k : Nat} {x : In} {b : Bt} (hi : ins[i]? = some x) (hk : x.bs[k]? = some b) : b.es.length ≤ 60 := by
  have h1 := tot_ge (ins := ctM ins) (i := i) (k := k) (b := ctI x) (l := b.es.map entOf) (by simp [ctM, hi]) (by simp [ctI, hk])
  rw [← h.cnt, List.length_map] at h1
  have := h.most
  omega
section
variable {w : World} {B g : Nat} {tx : Tx} {AI : Option Addr} {cI : Nat} {ins : List In} {added : Nat}
/-- an input's cell -/
theorem MG.cell_ (h : MG w B g tx AI cI ins added) {i : Nat} {x : In} (hi : ins[i]? = some x) : ∃ gi, AI = some ⟨gi, 0, none⟩ ∧ w.cell? ⟨gi, i, none⟩ = some (.slice x.A x.bs.length x.c) := by
  obtain ⟨gi, hAI, _, _⟩ := h.row_ (by intro e; rw [e] at hi; simp at hi)
  subst hAI
  obtain ⟨b', o', e, _, hc⟩ := h.row.vs i (inV x) (by rw [List.getElem?_map, hi]; rfl)
  injection e with e
  injection e with e1 e2 _
  subst e1; subst e2
  rw [Nat.zero_add] at hc
  exact ⟨gi, rfl, hc⟩
theorem MG.pos (h : MG w B g tx AI cI ins added) {i : Nat} {x : In} (hi : ins[i]? = some x) : ∃ k, x.bs.length = k + 1 := by
  cases e : x.bs with
  | nil => exact absurd e (h.ne i x hi)
  | cons b r => exact ⟨r.length, by simp⟩
end
section
variable {w : World} {B g : Nat} {tx : Tx} {AI : Option Addr} {cI : Nat} {ins : List In} {added : Nat}
/-- a batch's cell -/
theorem MG.bcell (h : MG w B g tx AI cI ins added) {i k : Nat} {x : In} {b : Bt} (hi : ins[i]? = some x) (hk : x.bs[k]? = some b) : ∃ gx, x.A = some ⟨gx, 0, none⟩ ∧ w.cell? ⟨gx, k, none⟩ = some (.slice b.A b.es.length b.c) := by
  obtain ⟨gx, hA, _, _⟩ := h.at_ hi
  have hr := h.inp i x hi
  rw [hA] at hr
  obtain ⟨b', o', e, _, hc⟩ := hr.vs k (btV b) (by rw [List.getElem?_map, hk]; rfl)
  injection e with e
  injection e with e1 e2 _
  subst e1; subst e2
  rw [Nat.zero_add] at hc
  exact ⟨gx, hA, hc⟩
end
theorem clo_ct (ins : List In) : cloL (ctM ins) = ins.map fun x => x.bs.length - 1 := by simp [cloL, ctM, ctI]
theorem slice_tail (b o n ct n1 : Nat) (hn : n = n1 + 1) (hc : n ≤ ct) (w : World) : (Instr.slice 46 (.slice (some ⟨b, o, none⟩) n ct) (some (.int .i64 1)) none none).run Tryz.prog w = .ok (.slice (if ct = 1 then some ⟨b, o, none⟩ else some ⟨b, o + 1, none⟩) n1 (ct - 1)) w := by
  have g1 : (1 : Int) ≤ (n : Int) := by omega
  have g2 : (n : Int) ≤ (ct : Int) := by omega
  obtain rfl : n1 = n - 1 := by omega
  by_cases e : ct = 1
  · subst e
    obtain rfl : n = 1 := by omega
    clear hc hn
    go_simp
  · rw [if_neg e]
    clear hn
    go_simp
set_option maxHeartbeats 1000000 in
set_option maxRecDepth 100000 in
theorem mrounds_any (B g : Nat) (tx : Tx) (AI : Option Addr) (cI : Nat) (ins : List In) (added : Nat) (w : World) (h : MG w B g tx AI cI ins added) (hG : Gm ins added) :
    Calls Tryz.prog 56 #[.pointer (some ⟨g, 0, none⟩)] w fun e w' => e = .returned (.int .i64 (rndM (ctM ins) : Nat)) ∧ w = w' := by
  have c0 := h.c0
  obtain ⟨n1, hn1⟩ : ∃ n1, ins.length = n1 + 1 := by
    cases e : ins with
    | nil => exact absurd e hG.ne
    | cons a r => exact ⟨r.length, by simp⟩
  have hcap := h.row.caps.1
  rw [List.length_map] at hcap
  obtain ⟨x0, hx0⟩ : ∃ x, ins[0]? = some x := ⟨_, List.getElem?_eq_getElem (by omega)⟩
  obtain ⟨gi, hAI, p0⟩ := h.cell_ hx0
  subst hAI
  have hsl := fun w => slice_tail gi 0 ins.length cI n1 hn1 hcap w
  obtain ⟨k0, hk0⟩ := h.pos hx0
  have hb0 := hG.bs 0 x0 hx0
  have HC0 := hideP (fun W => closed_any x0.A x0.bs.length x0.c k0 hk0 (by omega) W)
  have HST := hideP (show (((cloL (ctM ins)).take 1).foldl min 60 : Nat) = k0 by
    have : (cloL (ctM ins))[0]? = some k0 := by rw [clo_ct, List.getElem?_map, hx0]; simp [hk0]
    rw [List.take_one, List.head?_eq_getElem?, this]
    simp; omega)
  have HEND := hideP (show ((cloL (ctM ins)).take (n1 + 1)).foldl min 60 = rndM (ctM ins) by
    unfold rndM; rw [List.take_of_length_le (by rw [clo_ct, List.length_map]; omega)])
  have HCE := hideP (fun (k : Nat) (hk : k < n1) => show ∃ (A : Option Addr) (n c q : Nat), w.cell? ⟨gi, 1 + k, none⟩ = some (.slice A n c) ∧ n = q + 1 ∧ n ≤ 61 ∧ ((cloL (ctM ins)).take (k + 1 + 1)).foldl min 60 = min (((cloL (ctM ins)).take (k + 1)).foldl min 60) q from by
    obtain ⟨x, hx⟩ : ∃ x, ins[1 + k]? = some x := ⟨_, List.getElem?_eq_getElem (by omega)⟩
    obtain ⟨gi', e, hc⟩ := h.cell_ hx
    injection e with e
    injection e with e
    subst e
    obtain ⟨q, hq⟩ := h.pos hx
    have hcl : (cloL (ctM ins))[k + 1]? = some q := by rw [clo_ct, List.getElem?_map, Nat.add_comm k 1, hx]; simp [hq]
    refine ⟨_, _, _, q, hc, hq, hG.bs _ x hx, ?_⟩
    have hl : k + 1 < (cloL (ctM ins)).length := (List.getElem?_eq_some_iff.1 hcl).1
    rw [List.take_succ_eq_append_getElem hl, List.foldl_append]
    rw [List.getElem?_eq_getElem hl] at hcl
    injection hcl with hcl
    rw [hcl]
    rfl)
  have d0 : ((ins.length : Int) == 0) = false := beq_eq_false_iff_ne.2 (by omega)
  have g1 : (0 : Int) < (ins.length : Int) := by omega
  have HN1 := hideP hn1
  have hct : cI = 1 → n1 = 0 := fun e => by omega
  have hn4 : n1 ≤ 4 := by have := hG.few; omega
  generalize cloL (ctM ins) = cl at HST HEND HCE
  generalize rndM (ctM ins) = rr at HEND ⊢
  generalize x0.bs.length = m0 at p0 HC0 hk0 hb0
  clear h hcap hG hx0 hn1 hk0 hb0
  go_enter Tryz.func56, Tryz.ntmps56
  go_wp2_with fail
  refine (HC0.out _).mono ?_
  rintro e w' ⟨rfl, rfl⟩
  clear HC0
  obtain ⟨T, hT⟩ : ∃ T, (if cI = 1 then some (⟨gi, 0, none⟩ : Addr) else some ⟨gi, 0 + 1, none⟩) = T := ⟨_, rfl⟩
  rw [hT] at hsl
  have HT := hideP hT
  clear hT
  go_wp2_with fail
  go_loop [3, 25] (fun v i => ∃ k : Nat, k ≤ n1 ∧ i = .int .i64 k ∧ v = .int .i64 ((cl.take (k + 1)).foldl min 60 : Nat)) (fun _ i => n1 - (intOf i).toNat)
  case atStart => exact ⟨0, Nat.zero_le _, rfl, by rw [HST.out]⟩
  case round =>
    obtain ⟨k, hk, rfl, rfl⟩ := hrel
    by_cases hlt : k < n1
    · obtain ⟨A, n, c, q, hc, hq, hn, hst⟩ := HCE.out k hlt
      have hT2 : T = some ⟨gi, 1, none⟩ := by
        rw [← HT.out, if_neg (fun e => by have := hct e; omega)]
      subst hT2
      have HC := hideP (fun W => closed_any A n c q hq (by omega) W)
      have HS := hideP hst
      clear hst hq hn
      generalize (cl.take (k + 1)).foldl min 60 = z at HS ⊢
      have g2 : (0 : Int) ≤ (k : Int) := by omega
      have g3 : (k : Int) < (n1 : Int) := by omega
      go_wp2_with fail
      refine (HC.out _).mono ?_
      rintro e w' ⟨rfl, rfl⟩
      go_wp2_with fail
      go_round
      case rel => exact ⟨k + 1, by omega, by go_num, by rw [HS.out]; congr 1; omega⟩
      case measure => simp [intOf]; omega
    · obtain rfl : k = n1 := by omega
      rw [HEND.out]
      go_wp2_with fail
      go_ret
      exact ⟨rfl, rfl⟩
end Go.Proofs.YtefdipjhjgmokaaGreatDoor

set_option linter.unusedVariables false
set_option linter.unusedSimpArgs false
namespace Go.Proofs.YtefdipjhjgmokaaGreatDoor
open Go.RowKit

section
variable {α : Type}
def totB (b : List (List α)) : Nat := (b.map List.length).sum
theorem tot_modify (ins : List (List (List α))) : ∀ (i : Nat) (b : List (List α)) (f : List (List α) → List (List α)), ins[i]? = some b → totM (ins.modify i f) + totB b = totM ins + totB (f b) := by
  induction ins with
  | nil => intro i b f h; simp at h
  | cons a r ih =>
    intro i b f h
    cases i with
    | zero => simp at h; subst h; simp [totM, totB]; omega
    | succ i =>
      simp at h
      have := ih i b f h
      simp only [totM, List.modify_succ_cons, List.map_cons, List.sum_cons] at this ⊢
      omega
theorem totB_modify (b : List (List α)) : ∀ (k : Nat) (x : α), k < b.length → totB (b.modify k (· ++ [x])) = totB b + 1 := by
  induction b with
  | nil => intro k x h; simp at h
  | cons a r ih =>
    intro k x h
    cases k with
    | zero => simp [totB]; omega
    | succ k =>
      have := ih k x (by simp at h; omega)
      simp only [totB, List.modify_succ_cons, List.map_cons, List.sum_cons] at this ⊢
      omega
theorem tot_add {ins : List (List (List α))} {i : Nat} {b : List (List α)} (x : α) (h : ins[i]? = some b) (hb : b ≠ []) : totM (addM ins i x) = totM ins + 1 := by
  have h1 := tot_modify ins i b (fun b => b.modify (b.length - 1) (· ++ [x])) h
  have h2 := totB_modify b (b.length - 1) x (by have := List.length_pos_iff.2 hb; omega)
  unfold addM
  omega
theorem tot_close {ins : List (List (List α))} {i : Nat} {b : List (List α)} (h : ins[i]? = some b) : totM (closeM ins i) = totM ins := by
  have h1 := tot_modify ins i b (· ++ [[]]) h
  have h2 : totB (b ++ [[]]) = totB b := by simp [totB]
  unfold closeM
  omega
/-- the error of Close, the number, what is held behind it -/
def closeQ (ct : List (List (List α))) (i : Int) : Int := if 0 ≤ i ∧ i < (ct.length : Int) then (if 61 ≤ ((ct[i.toNat]?).getD []).length then 2 else 0) else 4
def closeN (ct : List (List (List α))) (i : Int) : Int := if closeQ ct i = 0 then (((ct[i.toNat]?).getD []).length : Int) else 0
def closeC (ct : List (List (List α))) (i : Int) : List (List (List α)) := if closeQ ct i = 0 then closeM ct i.toNat else ct
theorem closeQ_ok {ct : List (List (List α))} {i : Nat} {b : List (List α)} (h : ct[i]? = some b) (hb : b.length ≤ 60) : closeQ ct (i : Int) = 0 ∧ closeN ct (i : Int) = (b.length : Int) ∧ closeC ct (i : Int) = closeM ct i := by
  have hi : i < ct.length := (List.getElem?_eq_some_iff.1 h).1
  have hq : closeQ ct (i : Int) = 0 := by
    unfold closeQ
    rw [if_pos (by omega), Int.toNat_natCast, h]
    simp only [Option.getD_some]
    rw [if_neg (by omega)]
  exact ⟨hq, by unfold closeN; rw [if_pos hq, Int.toNat_natCast, h]; rfl, by unfold closeC; rw [if_pos hq, Int.toNat_natCast]⟩
theorem closeQ_full {ct : List (List (List α))} {i : Nat} {b : List (List α)} (h : ct[i]? = some b) (hb : 61 ≤ b.length) : closeQ ct (i : Int) = 2 ∧ closeN ct (i : Int) = 0 ∧ closeC ct (i : Int) = ct := by
  have hi : i < ct.length := (List.getElem?_eq_some_iff.1 h).1
  have hq : closeQ ct (i : Int) = 2 := by
    unfold closeQ
    rw [if_pos (by omega), Int.toNat_natCast, h]
    simp only [Option.getD_some]
    rw [if_pos (by omega)]
  exact ⟨hq, by unfold closeN; rw [if_neg (by rw [hq]; decide)], by unfold closeC; rw [if_neg (by rw [hq]; decide)]⟩
theorem closeQ_none {ct : List (List (List α))} {i : Int} (h : ¬ (0 ≤ i ∧ i < (ct.length : Int))) : closeQ ct i = 4 ∧ closeN ct i = 0 ∧ closeC ct i = ct := by
  have hq : closeQ ct i = 4 := by unfold closeQ; rw [if_neg h]
  exact ⟨hq, by unfold closeN; rw [if_neg (by rw [hq]; decide)], by unfold closeC; rw [if_neg (by rw [hq]; decide)]⟩
end
/-- the error of Add, what is held behind it -/
def addQ (ct : List (List (List Ent))) (i : Int) (x : Ent) : Int := if 0 ≤ i ∧ i < (ct.length : Int) then (if chkE x = 0 then (if 60 ≤ totM ct then 2 else 0) else chkE x) else 4
def addC (ct : List (List (List Ent))) (i : Int) (x : Ent) : List (List (List Ent)) := if addQ ct i x = 0 then addM ct i.toNat (dropE x) else ct

/-- a Merge: where it lies -/
structure Ms where
  g : Nat
  x : Tx
  AI : Option Addr
  cI : Nat
  ins : List In
  added : Nat
def Ms.F (s : Ms) (k : Nat) : Prop := CF s.g s.AI s.ins k
/-- the blocks of its entries' operations, cuts and owners -/
def Ms.O (s : Ms) (k : Nat) : Prop := ∃ (i j : Nat) (x : In) (b : Bt) (e : Em), s.ins[i]? = some x ∧ x.bs[j]? = some b ∧ e ∈ b.es ∧ (blk e.m.O = some k ∨ blk e.m.A = some k ∨ blk e.D = some k)
def Ms.ct (s : Ms) : List (List (List Ent)) := ctM s.ins
structure Ms.Ok (s : Ms) (w : World) (B : Nat) : Prop where
  mg : MG w B s.g s.x s.AI s.cI s.ins s.added
  gm : Gm s.ins s.added
/-- a step of a Merge -/
structure Ms.To (s : Ms) (w : World) (B : Nat) (s' : Ms) (w' : World) (ct' : List (List (List Ent))) : Prop where
  g : s'.g = s.g
  x : s'.x = s.x
  ok : s'.Ok w' B
  ct : s'.ct = ct'
  fr : Fr s.F w w'
  F : ∀ k, s'.F k → s.F k ∨ w.heap.size ≤ k
  O : ∀ k, s'.O k → s.O k ∨ w.heap.size ≤ k
section
variable {s s' s2 : Ms} {w w1 w' : World} {B B' : Nat} {ct' ct2 : List (List (List Ent))}
theorem Ms.Ok.below (h : s.Ok w B) (hb : Below w.heap.size w w') : s.Ok w' B := ⟨h.mg.below hb, h.gm⟩
theorem Ms.Ok.mono (h : s.Ok w B) (hB : B' ≤ B) : s.Ok w B' := ⟨h.mg.mono hB, h.gm⟩
theorem Ms.Ok.lo (h : s.Ok w B) {k : Nat} (hk : s.F k) : B ≤ k ∧ k < w.heap.size := (h.mg.cf_ty hk).2
theorem Ms.Ok.size (h : s.Ok w B) : B ≤ w.heap.size := by have := h.mg.low; have := h.mg.box.lt; omega
theorem Ms.Ok.fr {F : Nat → Prop} (h : s.Ok w B) (hf : Fr F w w') (hd : ∀ q, s.F q → ¬ F q) (o1 : Off F w 71) (o2 : Off F w 9) (o3 : Off F w 3) : s.Ok w' B := ⟨h.mg.fr hf hd o1 o2 o3, h.gm⟩
theorem Ms.To.mono (h : s.To w B s' w' ct') (hB : B' ≤ B) : s.To w B' s' w' ct' := ⟨h.g, h.x, h.ok.mono hB, h.ct, h.fr, h.F, h.O⟩
theorem Ms.To.same (h : s.Ok w B) (hb : Below w.heap.size w w') : s.To w B s w' s.ct := ⟨rfl, rfl, h.below hb, rfl, .of_below hb, fun _ => .inl, fun _ => .inl⟩
theorem Ms.To.pre (h : s.To w1 B s' w' ct') (hb : Below w.heap.size w w1) : s.To w B s' w' ct' := ⟨h.g, h.x, h.ok, h.ct, (Fr.of_below hb).comp h.fr, fun k hk => (h.F k hk).imp id fun e => Nat.le_trans hb.size e, fun k hk => (h.O k hk).imp id fun e => Nat.le_trans hb.size e⟩
theorem Ms.To.post (h : s.To w B s' w1 ct') (hb : Below w1.heap.size w1 w') : s.To w B s' w' ct' := ⟨h.g, h.x, h.ok.below hb, h.ct, h.fr.comp (.of_below hb), h.F, h.O⟩
theorem Ms.To.trans (h : s.To w B s' w1 ct') (h2 : s'.To w1 B s2 w' ct2) : s.To w B s2 w' ct2 :=
  ⟨h2.g.trans h.g, h2.x.trans h.x, h2.ok, h2.ct, h.fr.trans h2.fr h.F, fun k hk => (h2.F k hk).elim (h.F k) fun e => .inr (Nat.le_trans h.fr.size e), fun k hk => (h2.O k hk).elim (h.O k) fun e => .inr (Nat.le_trans h.fr.size e)⟩
/-- below the Merge nothing changes -/
theorem Ms.To.below_ {a : World} {B0 : Nat} (h : s.To w B s' w' ct') (ho : s.Ok w B) (hB : B0 ≤ B) (hb : Below B0 a w) : Below B0 a w' := h.fr.below (fun k hk => Nat.le_trans hB (ho.lo hk).1) (Nat.le_trans hB ho.size) hb
/-- what lies apart from a Merge -/
theorem Ms.Ok.off (h : s.Ok w B) {t : TypeId} (h0 : t ≠ 51) (h1 : t ≠ 48) (h2 : t ≠ 146) (h3 : t ≠ 144) (h4 : t ≠ 42) : Off s.F w t := h.mg.off h0 h1 h2 h3 h4
end
/-- a row of entries lies apart from a Merge -/
def Apa (s : Ms) (A : Option Addr) : Prop := ∀ k, blk A = some k → ¬ s.F k
theorem EW.to_ {s s' : Ms} {w w' : World} {B B' : Nat} {ct' : List (List (List Ent))} {A : Option Addr} {c : Nat} {xs : List Em} (h : EW w B' A c xs) (ho : s.Ok w B) (ht : s.To w B s' w' ct') (ha : Apa s A) : EW w' B' A c xs ∧ Apa s' A :=
  ⟨⟨ht.fr.own h.row fun k hk => ha k (ob hk), fun x hx => ⟨ht.fr.own_ty (h.eo x hx).ops (ho.off (by decide) (by decide) (by decide) (by decide) (by decide)), ⟨ht.fr.own_ty (h.eo x hx).map.cuts (ho.off (by decide) (by decide) (by decide) (by decide) (by decide)), ht.fr.own_ty (h.eo x hx).map.own (ho.off (by decide) (by decide) (by decide) (by decide) (by decide))⟩⟩, h.bd⟩,
    fun k hk hF => (ht.F k hF).elim (ha k hk) fun e => by have := (World.ownsRow.lt h.row k (bo _ _ hk)).2; omega⟩
end Go.Proofs.YtefdipjhjgmokaaGreatDoor

set_option linter.unusedVariables false
set_option linter.unusedSimpArgs false
namespace Go.Proofs.YtefdipjhjgmokaaGreatDoor
open Go.RowKit

section
variable {α : Type}
theorem log_mem {ct : List (List (List α))} {e : α} (h : e ∈ logM ct) : ∃ b ∈ ct, ∃ l ∈ b, e ∈ l := by
  unfold logM logUp at h
  obtain ⟨l, hl, he⟩ := List.mem_flatten.1 h
  obtain ⟨r, _, rfl⟩ := List.mem_map.1 hl
  unfold roundL at he
  obtain ⟨l, hl, he⟩ := List.mem_flatten.1 he
  obtain ⟨b, hb, rfl⟩ := List.mem_map.1 hl
  cases e2 : b[r]? with
  | none => rw [e2] at he; simp at he
  | some l => rw [e2] at he; exact ⟨b, hb, l, List.mem_of_getElem? e2, he⟩
end
theorem sum_le {β : Type} (l : List β) (f g : β → Nat) (h : ∀ x ∈ l, f x ≤ g x) : (l.map f).sum ≤ (l.map g).sum := by
  induction l with
  | nil => exact Nat.le_refl _
  | cons a l ih =>
    have h1 := h a (by simp)
    have h2 := ih fun x hx => h x (by simp [hx])
    simp; omega
theorem round_len {α : Type} (ct : List (List (List α))) (r : Nat) : (roundL ct r).length ≤ totM ct := by
  unfold roundL totM
  rw [List.length_flatten, List.map_map]
  refine sum_le ct _ _ fun b _ => ?_
  simp only [Function.comp_apply]
  cases e : b[r]? with
  | none => simp
  | some l => exact mem_sum (List.mem_map_of_mem (List.mem_of_getElem? e))
theorem log_len {α : Type} (ct : List (List (List α))) : (logM ct).length ≤ 60 * totM ct := by
  have h : ∀ R, (logUp ct R).length ≤ R * totM ct := fun R => by
    induction R with
    | zero => simp [logUp]
    | succ R ih =>
      rw [logUp_succ, List.length_append, Nat.succ_mul]
      have := round_len ct R
      omega
  exact Nat.le_trans (h _) (Nat.mul_le_mul_right _ (rnd_60 ct))
theorem sum_add {β : Type} (l : List β) (f g : β → Nat) : (l.map fun x => f x + g x).sum = (l.map f).sum + (l.map g).sum := by
  induction l with
  | nil => rfl
  | cons a l ih => simp only [List.map_cons, List.sum_cons, ih]; omega
theorem take_sum_le (l : List Nat) (k : Nat) : (l.take k).sum ≤ l.sum := by
  have := congrArg List.sum (List.take_append_drop k l)
  rw [List.sum_append] at this
  omega
/-- a log holds no more than came in -/
theorem log_tot {α : Type} (ct : List (List (List α))) : (logM ct).length ≤ totM ct := by
  have h : ∀ R, (logUp ct R).length = (ct.map fun b => ((b.map List.length).take R).sum).sum := fun R => by
    induction R with
    | zero =>
      simp only [logUp, List.range_zero, List.map_nil, List.flatten_nil, List.length_nil, List.take_zero, List.sum_nil]
      induction ct with
      | nil => rfl
      | cons b r ih => simp only [List.map_cons, List.sum_cons]; omega
    | succ R ih =>
      rw [logUp_succ, List.length_append, ih]
      unfold roundL
      rw [List.length_flatten, List.map_map, ← sum_add]
      congr 1
      refine List.map_congr_left fun b _ => ?_
      simp only [Function.comp_apply]
      cases e : b[R]? with
      | none =>
        have hl := List.getElem?_eq_none_iff.1 e
        rw [List.take_of_length_le (by simpa using hl), List.take_of_length_le (by simp; omega)]
        simp
      | some l =>
        obtain ⟨hl, rfl⟩ := List.getElem?_eq_some_iff.1 e
        rw [List.take_succ_eq_append_getElem (by simpa using hl), List.sum_append]
        simp
  unfold logM
  rw [h]
  exact sum_le ct _ _ fun b _ => take_sum_le _ _
theorem Ms.Ok.log_chk {s : Ms} {w : World} {B : Nat} (h : s.Ok w B) {e : Ent} (he : e ∈ logM s.ct) : chkE e = 0 := by
  obtain ⟨b, hb, l, hl, he⟩ := log_mem he
  obtain ⟨x, hx, rfl⟩ := List.mem_map.1 hb
  obtain ⟨t, ht, rfl⟩ := List.mem_map.1 hl
  obtain ⟨y, hy, rfl⟩ := List.mem_map.1 he
  obtain ⟨i, hi⟩ := List.mem_iff_getElem?.1 hx
  obtain ⟨k, hk⟩ := List.mem_iff_getElem?.1 ht
  exact (h.mg.good i x k t hi hk y hy).1
theorem Ms.Ok.log_few {s : Ms} {w : World} {B : Nat} (h : s.Ok w B) {xs : List Em} (he : xs.map entOf = logM s.ct) (hm : ∀ x ∈ xs, chkE (entOf x) = 0 → dropE (entOf x) = entOf x) : ∀ x ∈ xs, x.d.length < 4611686018427387904 := fun x hx => by
  have h1 := h.log_chk (e := entOf x) (by rw [← he]; exact List.mem_map_of_mem hx)
  have h2 := hm x hx h1
  obtain ⟨D, c, d, isM, m⟩ := x
  cases isM
  · have := (chkD_zero.1 (show chkD d = 0 from h1)).2.1
    simp only; omega
  · have : ([] : List Opr) = d := congrArg Ent.d h2
    simp only; rw [← this]; simp
theorem Ms.Ok.log_drop {s : Ms} {w : World} {B : Nat} (h : s.Ok w B) {e : Ent} (he : e ∈ logM s.ct) : dropE e = e := by
  obtain ⟨b, hb, l, hl, he⟩ := log_mem he
  obtain ⟨x, hx, rfl⟩ := List.mem_map.1 hb
  obtain ⟨t, ht, rfl⟩ := List.mem_map.1 hl
  obtain ⟨y, hy, rfl⟩ := List.mem_map.1 he
  obtain ⟨i, hi⟩ := List.mem_iff_getElem?.1 hx
  obtain ⟨k, hk⟩ := List.mem_iff_getElem?.1 ht
  exact (h.mg.good i x k t hi hk y hy).2
theorem Apa.fresh {s : Ms} {w w' : World} {B B' : Nat} {A : Option Addr} {c : Nat} {xs : List Em} (h : EW w' B' A c xs) (hs : s.Ok w B) (hB : w.heap.size ≤ B') : Apa s A := fun k hk hF => by
  have h1 := (World.ownsRow.lt h.row k (bo _ _ hk)).1
  have h2 := (hs.lo hF).2
  omega
theorem tot_new {α : Type} (n : Nat) : totM (List.replicate n [([] : List α)]) = 0 := by
  induction n with
  | zero => rfl
  | succ n ih => simp only [totM, List.replicate_succ, List.map_cons, List.sum_cons] at ih ⊢; rw [ih]; rfl
end Go.Proofs.YtefdipjhjgmokaaGreatDoor
