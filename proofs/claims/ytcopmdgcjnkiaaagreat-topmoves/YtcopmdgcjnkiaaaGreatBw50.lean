/-
  rotop.begun and storeKept.
  rotop.TopMoves: what is kept while the log is turned.
-/
import Derived.Test.YtcopmdgcjnkiaaaGreatBw7
import Derived.Test.YtcopmdgcjnkiaaaGreatBw42
import Derived.Test.YtcopmdgcjnkiaaaGreatBw49
import Derived.Test.YtcopmdgcjnkiaaaGreatBw11
set_option linter.unusedVariables false
set_option linter.unusedSimpArgs false
namespace Go.Proofs.YtcopmdgcjnkiaaaGreat
open Go.RowKit

set_option maxHeartbeats 400000 in
set_option maxRecDepth 100000 in
theorem tbegun_any (w : World) : Calls Tryz.prog 25 #[] w fun e w' => e = .returned (.bool true) ∧ Below w.heap.size w w' := by
  have hok : Ok [((⟨#[97]⟩ : ByteArray), (1 : Int))] := chk_ok.1 (by decide +kernel)
  have HL := hideP (fun l' (h1 : Ok l') (h2 : valOf l' = upd (valOf []) ⟨#[97]⟩ 1) => show l'.length = 1 from by
    rw [h1.ext hok fun k => by
      rw [h2]
      by_cases e : k = ⟨#[97]⟩
      · subst e; rw [upd_same, valOf_mem (p := ((⟨#[97]⟩ : ByteArray), (1 : Int))) hok.srt (by simp)]
      · rw [upd_other _ _ e, valOf_none (by simp), valOf_none (fun p hp h => e (by simp at hp; subst hp; exact h.symm))]]
    rfl)
  clear hok
  have HP := hideP (put_st none 0 [] ⟨#[97]⟩ 1 w (SV.nil w) Ok.nil (by decide +kernel) (by decide))
  go_enter Tryz.func25, Tryz.ntmps25
  go_wp2_with fail
  refine HP.out.mono ?_
  rintro e w1 ⟨A, c, l', rfl, _, hok, hv, hb, _⟩
  rw [HL.out l' hok hv]
  clear HP HL hv
  go_wp2_with fail
  go_ret
  exact ⟨rfl, hb⟩
end Go.Proofs.YtcopmdgcjnkiaaaGreat

set_option linter.unusedVariables false
set_option linter.unusedSimpArgs false
namespace Go.Proofs.YtcopmdgcjnkiaaaGreat
open Go.RowKit

/-- the first operations are turned -/
def half (d : List Opr) (i : Nat) : List Opr := (d.take i).map turnO ++ d.drop i
theorem half_zero (d : List Opr) : half d 0 = d := by simp [half]
theorem half_all (d : List Opr) : half d d.length = d.map turnO := by simp [half]
theorem half_len (d : List Opr) (i : Nat) : (half d i).length = d.length := by simp [half]; omega
theorem half_get {d : List Opr} {i : Nat} (h : i < d.length) : (half d i)[i]? = some d[i] := by
  unfold half
  rw [List.getElem?_append_right (by simp; omega)]
  simp [Nat.min_eq_left (Nat.le_of_lt h), h]
theorem half_set {d : List Opr} {i : Nat} (h : i < d.length) : (half d i).set i (turnO d[i]) = half d (i + 1) := by
  unfold half
  have hl : ((d.take i).map turnO).length = i := by simp; omega
  rw [List.set_append_right _ _ (by omega), hl, Nat.sub_self, List.drop_eq_getElem_cons h, List.set_cons_zero, List.take_succ_eq_append_getElem h, List.map_append, List.append_assoc]
  rfl
theorem half_same {d : List Opr} {i : Nat} (h : i < d.length) (hk : turnO d[i] = d[i]) : half d i = half d (i + 1) := by
  rw [← half_set h, hk]
  obtain ⟨h1, h2⟩ := List.getElem?_eq_some_iff.1 (half_get h)
  rw [← h2, List.set_getElem_self]
/-- a log that is changed, and Copies that are newer -/
structure TmH (w : World) (B g : Nat) (A : Option Addr) (ce : Nat) (xs : List Em) (ys : List Ent) (ct : List (List (List Ent))) (st : List Sr) (c : Cs) (wr : World) : Prop where
  ok : c.Ok wr B
  gg : c.s.g = g
  ct : c.s.ct = ct
  st : c.st = st
  ew : EW wr w.heap.size A ce xs
  loA : ∀ q, blk A = some q → q < B
  loD : ∀ x ∈ xs, ∀ q, blk x.D = some q → q < B
  pw : PwD xs
  eq : xs.map entOf = ys
  wB : w.heap.size ≤ B
  be : Below w.heap.size w wr
section
variable {w wr w' : World} {B g ce : Nat} {A : Option Addr} {xs : List Em} {ys : List Ent} {ct ct' : List (List (List Ent))} {st st' : List Sr} {c c' : Cs}
theorem TmH.below (h : TmH w B g A ce xs ys ct st c wr) (hb : Below wr.heap.size wr w') : TmH w B g A ce xs ys ct st c w' := ⟨h.ok.below hb, h.gg, h.ct, h.st, h.ew.below hb, h.loA, h.loD, h.pw, h.eq, h.wB, h.be.trans (hb.mono h.be.size)⟩
theorem TmH.step (h : TmH w B g A ce xs ys ct st c wr) (T : c.To wr B c' w' ct' st') : TmH w B g A ce xs ys ct' st' c' w' :=
  ⟨T.ok, T.g.trans h.gg, T.ct, T.st, (h.ew.cto h.ok T fun k hk hF => by have := h.loA k hk; have := (h.ok.lo hF).1; omega).1, h.loA, h.loD, h.pw, h.eq, h.wB, T.below_ h.ok h.wB h.be⟩
/-- one operation is turned -/
theorem TmH.turn (h : TmH w B g A ce xs ys ct st c wr) {k i : Nat} {x : Em} {o : Opr} (hk : xs[k]? = some x) (hi : x.d[i]? = some o) (hn : turnO o = ⟨5, o.key, kq, o.n⟩) :
    ∃ gD, x.D = some ⟨gD, 0, none⟩ ∧ wr.cell? ⟨gD, i * 4, none⟩ = some (.int .i64 o.kind) ∧ wr.frozen? ⟨gD, i * 4, none⟩ = false ∧ (wr.setCell ⟨gD, i * 4, none⟩ (.int .i64 5)).cell? ⟨gD, i * 4 + 2, none⟩ = some (.string o.src) ∧ (wr.setCell ⟨gD, i * 4, none⟩ (.int .i64 5)).frozen? ⟨gD, i * 4 + 2, none⟩ = false ∧ Ty wr gD 80 ∧
      TmH w B g A ce (xs.set k (x.setD (x.d.set i (turnO o)))) (ys.set k ⟨x.isM, x.d.set i (turnO o), x.m.cs, x.m.os⟩) ct st c ((wr.setCell ⟨gD, i * 4, none⟩ (.int .i64 5)).setCell ⟨gD, i * 4 + 2, none⟩ (.string kq)) ∧
      Fr (fun q => q = gD) wr ((wr.setCell ⟨gD, i * 4, none⟩ (.int .i64 5)).setCell ⟨gD, i * 4 + 2, none⟩ (.string kq)) := by
  obtain ⟨gD, e, hB, c0, f0, c1, f1, tg, hew, ff⟩ := h.ew.turn h.pw hk hi
  have hlt : gD < B := h.loD x (List.mem_of_getElem? hk) gD (by rw [e]; rfl)
  rw [hn]
  refine ⟨gD, e, c0, f0, c1, f1, tg, ⟨h.ok.lo_fr ff (fun q hq => by have hq' : q = gD := hq; omega), h.gg, h.ct, h.st, hew, h.loA, fun y hy q hq => ?_, h.pw.setD hk _, ?_, h.wB, ff.below (fun q hq => by have hq' : q = gD := hq; omega) h.be.size h.be⟩, ff⟩
  · rcases mem_set hy with rfl | hy
    · exact h.loD x (List.mem_of_getElem? hk) q hq
    · exact h.loD y hy q hq
  · rw [List.map_set, h.eq]; rfl
end
def TmI1 (w : World) (B g : Nat) (A : Option Addr) (ce n : Nat) (es : List Ent) (r0 : Sr) (i : Value) (wr : World) : Prop :=
  ∃ (k : Nat) (xs : List Em) (c : Cs), k ≤ n ∧ xs.length = n ∧ i = .int .i64 k ∧ TmH w B g A ce xs ((es.take k).map turnE ++ es.drop k) [[(es.take k).map turnE]] [r0] c wr
def TmI2 (w : World) (B g : Nat) (A : Option Addr) (ce n : Nat) (ys : List Ent) (e : Ent) (ct : List (List (List Ent))) (r0 : Sr) (k gx : Nat) (xc : Array Value) (D : Option Addr) (cD : Nat) (m : Mp) (i : Value) (wr : World) : Prop :=
  ∃ (j : Nat) (xs : List Em) (c : Cs), j ≤ e.d.length ∧ xs.length = n ∧ i = .int .i64 j ∧ TmH w B g A ce xs (ys.set k ⟨e.isM, half e.d j, e.cs, e.os⟩) ct [r0] c wr ∧ xs[k]? = some ⟨D, cD, half e.d j, e.isM, m⟩ ∧ Box wr gx 41 xc
end Go.Proofs.YtcopmdgcjnkiaaaGreat
