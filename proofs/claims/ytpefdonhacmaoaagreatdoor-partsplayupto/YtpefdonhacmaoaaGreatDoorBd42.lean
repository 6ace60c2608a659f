/-
  Transactions, and slices of them, that came in, opened.
-/
import Derived.Test.YtpefdonhacmaoaaGreatDoorBd28
import Derived.ProofKit
import Derived.OpenShut
import Derived.Deep.SlicePairs
import Derived.SizedLaws
set_option linter.unusedVariables false
set_option linter.unusedSimpArgs false
namespace Go.Proofs.YtpefdonhacmaoaaGreatDoor
open Go.RowKit Go.ChangeShapes Go.WideShapes Go.Deep

def strV : Value → ByteArray | .string s => s | _ => ByteArray.empty
theorem opU : ∃ f0 f1 f2 f3, Tryz.prog.underlying 88 = some (.struct #[f0, f1, f2, f3]) ∧ f0.offset = 0 ∧ f1.offset = 1 ∧ f2.offset = 2 ∧ f3.offset = 3 ∧ f0.type = 3 ∧ f1.type = 9 ∧ f2.type = 9 ∧ f3.type = 3 := ⟨_, _, _, _, Tryz.underlying88, rfl, rfl, rfl, rfl, rfl, rfl, rfl, rfl⟩
theorem deedU : ∃ f0, Tryz.prog.underlying 43 = some (.struct #[f0]) ∧ f0.offset = 0 ∧ f0.type = 41 := ⟨_, Tryz.underlying43, rfl, rfl⟩
theorem cells_op : Tryz.prog.cellsOf 88 = 4 := by kernel_rfl
theorem cells_deed : Tryz.prog.cellsOf 43 = 1 := by kernel_rfl
theorem cells_ops : Tryz.prog.cellsOf 41 = 1 := by kernel_rfl
theorem cells_int : Tryz.prog.cellsOf 3 = 1 := by kernel_rfl
theorem cells_str : Tryz.prog.cellsOf 9 = 1 := by kernel_rfl
theorem lit0_of_cell {W : World} {a : Addr} {v : Value} (h : W.cell? (a.add 0) = some v) : ∃ b o, a = ⟨b, o, none⟩ := by
  obtain ⟨b, o, sp⟩ := a
  have hsp : sp = none := by simpa [Addr.add] using World.cell?_spot h
  subst hsp
  exact ⟨b, o, rfl⟩

section
variable {H : Type} {enc : TypeId × Value → H} {W : World}
set_option maxRecDepth 100000 in
theorem open_op {n : Nat} {cs : List Value} {x : DataW H × List MemPlace} (h : DataW.trod enc Tryz.prog W 0 (fun _ => true) true n 88 cs = some x) : ∃ o : Opr, cs = [.int .i64 o.kind, .string o.key, .string o.src, .int .i64 o.n] := by
  obtain ⟨f0, f1, f2, f3, hu, o0, o1, o2, o3, t0, t1, t2, t3⟩ := opU
  obtain ⟨xs, k, _, _, hlen, hxl, hf⟩ := DataW.trod_struct hu h
  rw [cells_op] at hlen
  match xs, hxl, cs, hlen with
  | [y0, y1, y2, y3], _, [v0, v1, v2, v3], _ =>
    have g0 := hf 0 f0 rfl
    have g1 := hf 1 f1 rfl
    have g2 := hf 2 f2 rfl
    have g3 := hf 3 f3 rfl
    rw [o0, t0, cells_int] at g0
    rw [o1, t1, cells_str] at g1
    rw [o2, t2, cells_str] at g2
    rw [o3, t3, cells_int] at g3
    obtain ⟨z0, e0, _, _⟩ := DataW.trod_int Tryz.underlying3 g0
    obtain ⟨s1, e1, _, _⟩ := DataW.trod_string Tryz.underlying9 g1
    obtain ⟨s2, e2, _, _⟩ := DataW.trod_string Tryz.underlying9 g2
    obtain ⟨z3, e3, _, _⟩ := DataW.trod_int Tryz.underlying3 g3
    simp at e0 e1 e2 e3
    exact ⟨⟨z0, s1, s2, z3⟩, by rw [e0, e1, e2, e3]⟩
set_option maxRecDepth 100000 in
theorem open_ops {A : Option Addr} {len cap fuel : Nat} {x : DataW H × List MemPlace} (hf : DataW.trod enc Tryz.prog W 0 (fun _ => true) true fuel 41 [.slice A len cap] = some x) :
    ∃ d : List Opr, d.length = len ∧ OS W W.heap.size A d ∧ len ≤ cap ∧ cap ≤ maxLen := by
  rcases open_slice Tryz.underlying41 hf with ⟨hcs, hx⟩ | ⟨a, len', cap', m, n, D, Pl, hcs, _, hl, hm, hmm, _, hx⟩
  · simp at hcs
    obtain ⟨rfl, rfl, rfl⟩ := hcs
    exact ⟨[], rfl, OS.nil, Nat.le_refl _, Nat.zero_le _⟩
  · simp at hcs
    obtain ⟨rfl, rfl, rfl⟩ := hcs
    simp only [if_true] at hmm
    subst hmm
    have each : ∀ i, i < m → ∃ o : Opr, W.cell? (a.add (i * 4)) = some (.int .i64 o.kind) ∧ W.cell? (a.add (i * 4 + 1)) = some (.string o.key) ∧ W.cell? (a.add (i * 4 + 2)) = some (.string o.src) ∧ W.cell? (a.add (i * 4 + 3)) = some (.int .i64 o.n) := fun i hi => by
      obtain ⟨cs', h1, h2⟩ := hx i hi
      rw [cells_op] at h1
      obtain ⟨_, hlen, hcell⟩ := World.cells?_some h1
      obtain ⟨o, rfl⟩ := open_op h2
      have c0 := hcell 0 (by omega)
      have c1 := hcell 1 (by omega)
      have c2 := hcell 2 (by omega)
      have c3 := hcell 3 (by omega)
      rw [add_add] at c0 c1 c2 c3
      exact ⟨o, by simpa using c0, by simpa using c1, by simpa using c2, by simpa using c3⟩
    have : Inhabited Opr := ⟨⟨0, ByteArray.empty, ByteArray.empty, 0⟩⟩
    obtain ⟨q, hq⟩ := choose_lt each
    refine ⟨(List.range len).map q, by simp, fun i p hp => ?_, hl, hm⟩
    have hi : i < len := by
      rcases Nat.lt_or_ge i len with h | h
      · exact h
      · simp [h] at hp
    obtain ⟨b, o, rfl⟩ := lit0_of_cell (by simpa using (hq 0 (by omega)).1)
    obtain ⟨c0, c1, c2, c3⟩ := hq i (by omega)
    rw [Addr.add_lit] at c0 c1 c2 c3
    simp [hi] at hp
    subst hp
    exact ⟨b, o, rfl, cell_lt c0, c0, by rw [Nat.add_assoc]; exact c1, by rw [Nat.add_assoc]; exact c2, by rw [Nat.add_assoc]; exact c3⟩
set_option maxRecDepth 100000 in
/-- a transaction has one cell -/
theorem open_deed_cells {fuel : Nat} {cs : List Value} {x : DataW H × List MemPlace} (hf : DataW.trod enc Tryz.prog W 0 (fun _ => true) true fuel 43 cs = some x) :
    ∃ y : Dl, cs = [dlV y] ∧ OS W W.heap.size y.D y.d := by
  obtain ⟨f0, hu, o0, t0⟩ := deedU
  obtain ⟨xs, k, _, _, hlen, hxl, hff⟩ := DataW.trod_struct hu hf
  rw [cells_deed] at hlen
  match xs, hxl, cs, hlen with
  | [y0], _, [v0], _ =>
    have g0 := hff 0 f0 rfl
    rw [o0, t0, cells_ops] at g0
    have g0' : DataW.trod enc Tryz.prog W 0 (fun _ => true) true k 41 [v0] = some y0 := g0
    have hs : ∃ A len cap, v0 = .slice A len cap := by
      rcases open_slice Tryz.underlying41 g0' with ⟨hcs, _⟩ | ⟨a, len', cap', m, n, D, Pl, hcs, _⟩
      · simp at hcs; exact ⟨_, _, _, hcs⟩
      · simp at hcs; exact ⟨_, _, _, hcs⟩
    obtain ⟨A, len, cap, rfl⟩ := hs
    obtain ⟨d, rfl, hos, _, _⟩ := open_ops g0'
    exact ⟨⟨A, cap, d⟩, rfl, hos⟩
set_option maxRecDepth 100000 in
theorem open_deed {v : Value} {base : Nat} {d : DataW H} {p : List MemPlace} (hv : Value.okWide Tryz.prog W .any base 43 v) (h : DataW.Trod enc Tryz.prog W 0 (fun _ => true) true 43 v d p) :
    ∃ (D : Option Addr) (c : Nat) (l : List Opr), v = .agg #[.slice D l.length c] ∧ OS W W.heap.size D l := by
  obtain ⟨cs, rfl, _⟩ := okWide_struct Tryz.underlying43 hv
  obtain ⟨fuel, hf⟩ := h
  obtain ⟨y, hy, hos⟩ := open_deed_cells hf
  have : cs = #[dlV y] := by
    have : cs.toList = [dlV y] := by simpa [Value.cells] using hy
    cases cs; simp_all
  exact ⟨y.D, y.c, y.d, by rw [this]; rfl, hos⟩
set_option maxRecDepth 100000 in
theorem open_deeds_len {A : Option Addr} {len cap : Nat} {d : DataW H} {p : List MemPlace} (h : DataW.Trod enc Tryz.prog W 0 (fun _ => true) true 28 (.slice A len cap) d p) : len ≤ 9223372036854775807 := by
  obtain ⟨fuel, hf⟩ := h
  rcases open_slice Tryz.underlying28 hf with ⟨hcs, hx⟩ | ⟨a, len', cap', m, n, D, Pl, hcs, _, hl, hm, hmm, _, hx⟩
  · simp [Value.cells] at hcs
    obtain ⟨rfl, rfl, rfl⟩ := hcs
    omega
  · simp [Value.cells] at hcs
    obtain ⟨rfl, rfl, rfl⟩ := hcs
    unfold maxLen at hm
    omega
theorem open_deeds {A : Option Addr} {len cap : Nat} {d : DataW H} {p : List MemPlace} (h : DataW.Trod enc Tryz.prog W 0 (fun _ => true) true 28 (.slice A len cap) d p) :
    ∃ ds : List Dl, ds.length = len ∧ DS W A ds := by
  obtain ⟨fuel, hf⟩ := h
  rcases open_slice Tryz.underlying28 hf with ⟨hcs, hx⟩ | ⟨a, len', cap', m, n, D, Pl, hcs, _, hl, hm, hmm, _, hx⟩
  · simp [Value.cells] at hcs
    obtain ⟨rfl, rfl, rfl⟩ := hcs
    exact ⟨[], rfl, VS.nil, by simp⟩
  · simp [Value.cells] at hcs
    obtain ⟨rfl, rfl, rfl⟩ := hcs
    simp only [if_true] at hmm
    subst hmm
    have each : ∀ i, i < m → ∃ y : Dl, W.cell? (a.add i) = some (dlV y) ∧ OS W W.heap.size y.D y.d := fun i hi => by
      obtain ⟨cs', h1, h2⟩ := hx i hi
      rw [cells_deed] at h1
      obtain ⟨_, hlen, hcell⟩ := World.cells?_some h1
      obtain ⟨y, rfl, hos⟩ := open_deed_cells h2
      have c0 := hcell 0 (by omega)
      rw [add_add] at c0
      exact ⟨y, by simpa using c0, hos⟩
    have : Inhabited Dl := ⟨⟨none, 0, []⟩⟩
    obtain ⟨q, hq⟩ := choose_lt each
    refine ⟨(List.range len).map q, by simp, fun i v hv => ?_, fun x hx => ?_⟩
    · have hi : i < len := by
        rcases Nat.lt_or_ge i len with h | h
        · exact h
        · simp [h] at hv
      obtain ⟨b, o, rfl⟩ := lit0_of_cell (hq 0 (by omega)).1
      have c0 := (hq i (by omega)).1
      rw [Addr.add_lit] at c0
      simp [hi] at hv
      exact ⟨b, o, rfl, cell_lt c0, by rw [c0, hv]⟩
    · simp at hx
      obtain ⟨i, hi, rfl⟩ := hx
      exact (hq i (by omega)).2
end
end Go.Proofs.YtpefdonhacmaoaaGreatDoor
