/-
  A transaction that came in, opened, with the size of its operations.
-/
import Derived.Test.YtpefdonhacmaoaaGreatBo52
set_option linter.unusedVariables false
set_option linter.unusedSimpArgs false
namespace Go.Proofs.YtpefdonhacmaoaaGreat
open Go.RowKit Go.ChangeShapes Go.WideShapes Go.Deep

set_option maxRecDepth 100000 in
theorem open_deedz {H : Type} {enc : TypeId × Value → H} {W : World} {v : Value} {base : Nat} {d : DataW H} {p : List MemPlace} (hv : Value.okWide Tryz.prog W .any base 39 v) (h : DataW.Trod enc Tryz.prog W 0 (fun _ => true) true 39 v d p) :
    ∃ (D : Option Addr) (c : Nat) (l : List Opr), v = .agg #[.slice D l.length c] ∧ OS W W.heap.size D l ∧ l.length ≤ c ∧ (D = none → c = 0) ∧ (l.length = 0 ∨ ∃ es sp, d = .agg [.slice es sp] ∧ es.length = l.length) := by
  obtain ⟨cs, rfl, _⟩ := okWide_struct Tryz.underlying39 hv
  obtain ⟨fuel, hf⟩ := h
  obtain ⟨f0, hu, o0, t0⟩ := deedU
  obtain ⟨xs, k, _, hx, hlen, hxl, hff⟩ := DataW.trod_struct hu hf
  rw [cells_deed] at hlen
  obtain ⟨v0, rfl⟩ : ∃ v0, cs = #[v0] := by
    obtain ⟨l⟩ := cs
    match l, hlen with
    | [v0], _ => exact ⟨v0, rfl⟩
  match xs, hxl with
  | [y0], _ =>
    have g0 := hff 0 f0 rfl
    rw [o0, t0, cells_ops] at g0
    have g0' : DataW.trod enc Tryz.prog W 0 (fun _ => true) true k 37 [v0] = some y0 := g0
    rcases open_slice Tryz.underlying37 g0' with ⟨hcs, hy⟩ | ⟨a, len', cap', m, n, D, Pl, hcs, _, hl, hm, hmm, hy, _⟩
    · simp at hcs
      subst hcs
      exact ⟨none, 0, [], rfl, OS.nil, Nat.le_refl _, fun _ => rfl, .inl rfl⟩
    · simp at hcs
      subst hcs
      obtain ⟨l, hlen2, hos, h1, h2⟩ := open_ops g0'
      subst hlen2
      simp only [Prod.mk.injEq] at hx
      refine ⟨some a, cap', l, rfl, hos, h1, (fun e => by cases e), .inr ⟨_, _, by rw [hx.1, hy]; rfl, by simp⟩⟩
theorem op_bytes : Tryz.prog.bytesOf 57 = 48 := by kernel_rfl
theorem deed_sized {H : Type} {ts : List TypeId} {ds : List (DataW H)} (h : (DataW.weightsEach Tryz.prog ts ds).all (· ≤ reachBytes) = true) {j : Nat} {es sp : List (DataW H)} (ht : ts[j]? = some 39) (hd : ds[j]? = some (.agg [.slice es sp])) : es.length * 48 ≤ 140737488351232 := by
  obtain ⟨f0, hu, o0, t0⟩ := deedU
  have := List.all_eq_true.1 h _ (DataW.weights_mem_each ht hd ((es.length + sp.length) * Tryz.prog.bytesOf 57) (by simp [DataW.weights, DataW.weightsEach, hu, t0, Tryz.underlying37]))
  rw [op_bytes] at this
  have hr : reachBytes = 140737488351232 := by decide
  have h2 : (es.length + sp.length) * 48 ≤ reachBytes := by simpa using this
  omega
end Go.Proofs.YtpefdonhacmaoaaGreat
