/-
  A slice of pairs that came in, opened (for a seat without roref: Open's twin; the two are never imported together).
  Slices of ints that came in, opened.
  Partition maps that came in, opened.
  Transactions, and slices of them, that came in, opened.
-/
import Derived.Test.YtpefdonhacmaoaaGreatBo2
import Derived.ProofKit
import Derived.OpenShut
import Derived.Deep.SlicePairs
import Derived.SizedLaws
import Derived.Test.YtpefdonhacmaoaaGreatBo17
import Derived.Deep.Matrix
import Derived.SliceStrings
import Derived.Test.YtpefdonhacmaoaaGreatBo11
set_option linter.unusedVariables false
set_option linter.unusedSimpArgs false
namespace Go.Proofs.YtpefdonhacmaoaaGreat
open Go.RowKit Go.ChangeShapes Go.WideShapes Go.Deep

/-- pairs that can be read: their keys and values are Go's -/
def Rd (l : List Pr) : Prop := ∀ p ∈ l, p.1.size ≤ maxLen ∧ (Lit.int .i64 p.2).wf = true
def strOf : Value → ByteArray | .string s => s | _ => ByteArray.empty
theorem pairU : ∃ f0 f1, Tryz.prog.underlying 51 = some (.struct #[f0, f1]) ∧ f0.offset = 0 ∧ f1.offset = 1 ∧ f0.type = 9 ∧ f1.type = 3 := ⟨_, _, Tryz.underlying51, rfl, rfl, rfl, rfl⟩
theorem open_pairs {H : Type} {enc : TypeId × Value → H} {W : World} {A : Option Addr} {len cap : Nat} {d : DataW H} {p : List MemPlace} (h : DataW.Trod enc Tryz.prog W 0 (fun _ => true) true 33 (.slice A len cap) d p) :
    ∃ l : List Pr, l.length = len ∧ SV W A cap l ∧ Rd l ∧ (d = .nil ∧ len = 0 ∨ ∃ es sp, d = .slice es sp ∧ es.length = len) := by
  obtain ⟨fuel, hf⟩ := h
  obtain ⟨f0, f1, hu, o0, o1, t0, t1⟩ := pairU
  rcases open_slice_pairs Tryz.underlying33 hu (by kernel_rfl) o0 o1 (by rw [t0]; kernel_rfl) (by rw [t1]; kernel_rfl) hf with ⟨hcs, hx⟩ | ⟨a, len', cap', m, n, V0, V1, D0, D1, P0, P1, hcs, _, hl, hm, hmm, hx, hc⟩
  · simp [Value.cells] at hcs
    obtain ⟨rfl, rfl, rfl⟩ := hcs
    simp only [Prod.mk.injEq] at hx
    exact ⟨[], rfl, SV.nil W, fun p hp => by simp at hp, .inl ⟨hx.1, rfl⟩⟩
  · simp [Value.cells] at hcs
    obtain ⟨rfl, rfl, rfl⟩ := hcs
    simp only [if_true] at hmm
    subst hmm
    simp only [Prod.mk.injEq] at hx
    have hs : ∀ i, i < m → ∃ s n, V0 i = .string s ∧ V1 i = .int .i64 n ∧ s.size ≤ maxLen ∧ (Lit.int .i64 n).wf = true := fun i hi => by
      obtain ⟨_, _, h3, h4⟩ := hc i hi
      rw [t0] at h3
      rw [t1] at h4
      obtain ⟨s, e1, _, e2⟩ := DataW.trod_string Tryz.underlying9 h3
      obtain ⟨z, e3, _, e4⟩ := DataW.trod_int Tryz.underlying3 h4
      exact ⟨s, z, by simpa using e1, by simpa using e3, e2, e4⟩
    have hlit : ∀ i, i < m → ∃ b o, a = ⟨b, o, none⟩ := fun i hi => by
      have h0 := (hc 0 (by omega)).1
      obtain ⟨b, o, sp⟩ := a
      have hsp : sp = none := by simpa [Addr.add] using World.cell?_spot h0
      subst hsp
      exact ⟨b, o, rfl⟩
    refine ⟨(List.range len).map fun i => (strOf (V0 i), intOf (V1 i)), by simp, ⟨fun i q hq => ?_, by simpa using hl, hm, (fun e => by cases e), fun h0 x hx => ?_⟩, fun q hq => ?_, .inr ⟨_, _, hx.1, by simp⟩⟩
    · have hi : i < len := by
        rcases Nat.lt_or_ge i len with h | h
        · exact h
        · simp [h] at hq
      obtain ⟨b, o, rfl⟩ := hlit i (by omega)
      obtain ⟨s, z, e1, e2, _, _⟩ := hs i (by omega)
      obtain ⟨c1, c2, _, _⟩ := hc i (by omega)
      simp [hi, e1, e2, strOf, intOf] at hq
      subst hq
      rw [Addr.add_lit, e1] at c1
      rw [Addr.add_lit, e2, ← Nat.add_assoc] at c2
      exact ⟨b, o, rfl, cell_lt c1, c1, c2⟩
    · injection hx with hx
      obtain ⟨b, o, rfl⟩ := hlit 0 h0
      exact ⟨b, o, hx.symm⟩
    · simp at hq
      obtain ⟨i, hi, rfl⟩ := hq
      obtain ⟨s, z, e1, e2, e3, e4⟩ := hs i (by omega)
      simp [e1, e2, strOf, intOf]
      exact ⟨e3, e4⟩
theorem pair_bytes : Tryz.prog.bytesOf 51 = 24 := by kernel_rfl
theorem reach : reachBytes = 140737488351232 := by decide
end Go.Proofs.YtpefdonhacmaoaaGreat

set_option linter.unusedVariables false
set_option linter.unusedSimpArgs false
namespace Go.Proofs.YtpefdonhacmaoaaGreat
open Go.RowKit Go.ChangeShapes Go.WideShapes Go.Deep

theorem lit_of_cell {W : World} {a : Addr} {v : Value} (h : W.cell? (a.add 0) = some v) : ∃ b o, a = ⟨b, o, none⟩ := by
  obtain ⟨b, o, sp⟩ := a
  have hsp : sp = none := by simpa [Addr.add] using World.cell?_spot h
  subst hsp
  exact ⟨b, o, rfl⟩
theorem open_is {H : Type} {enc : TypeId × Value → H} {W : World} {A : Option Addr} {len cap : Nat} {d : DataW H} {p : List MemPlace} (h : DataW.Trod enc Tryz.prog W 0 (fun _ => true) true 22 (.slice A len cap) d p) :
    ∃ ys : List Int, len = ys.length ∧ IS W A ys ∧ ys.length ≤ cap ∧ cap ≤ 9223372036854775807 ∧ (A = none → cap = 0) := by
  obtain ⟨fuel, hf⟩ := h
  rcases open_ints Tryz.underlying22 Tryz.underlying3 (by kernel_rfl) hf with ⟨hcs, _⟩ | ⟨x, l, c, zs, hcs, _, hl, hm, hz, _, hcell, hwz⟩
  · simp [Value.cells] at hcs
    obtain ⟨rfl, rfl, rfl⟩ := hcs
    exact ⟨[], rfl, fun i z hz => by simp at hz, by simp, by simp, fun _ => rfl⟩
  · simp [Value.cells] at hcs
    obtain ⟨rfl, rfl, rfl⟩ := hcs
    simp only [if_true] at hz
    refine ⟨zs.take len, by simp; omega, fun i z hi => ?_, by simp; omega, by unfold maxLen at hm; exact hm, fun e => by cases e⟩
    rw [List.getElem?_take] at hi
    split at hi
    · have hlt : i < zs.length := by omega
      have hc := hcell i hlt
      obtain ⟨b, o, rfl⟩ := lit_of_cell (hcell 0 (by omega))
      rw [Addr.add_lit] at hc
      refine ⟨b, o, rfl, cell_lt hc, ?_⟩
      rw [hc]
      simp [hlt] at hi
      simp [hlt, hi]
    · cases hi
end Go.Proofs.YtpefdonhacmaoaaGreat

set_option linter.unusedVariables false
set_option linter.unusedSimpArgs false
namespace Go.Proofs.YtpefdonhacmaoaaGreat
open Go.RowKit Go.ChangeShapes Go.WideShapes Go.Deep

theorem mapU : ∃ f0 f1, Tryz.prog.underlying 31 = some (.struct #[f0, f1]) ∧ f0.offset = 0 ∧ f1.offset = 1 ∧ f0.type = 29 ∧ f1.type = 22 := ⟨_, _, Tryz.underlying31, rfl, rfl, rfl, rfl⟩
theorem cells_map : Tryz.prog.cellsOf 31 = 2 := by kernel_rfl
theorem cells_strs : Tryz.prog.cellsOf 29 = 1 := by kernel_rfl
theorem cells_ints : Tryz.prog.cellsOf 22 = 1 := by kernel_rfl
section
variable {H : Type} {enc : TypeId × Value → H} {W : World}
theorem open_ss {A : Option Addr} {len cap fuel : Nat} {x : DataW H × List MemPlace} (hf : DataW.trod enc Tryz.prog W 0 (fun _ => true) true fuel 29 [.slice A len cap] = some x) :
    ∃ ys : List ByteArray, len = ys.length ∧ VS W A (ys.map Value.string) ∧ ys.length ≤ cap ∧ cap ≤ maxLen ∧ (A = none → cap = 0) := by
  rcases open_strings Tryz.underlying29 Tryz.underlying9 (by kernel_rfl) hf with ⟨hcs, _⟩ | ⟨a, l, c, ss, hcs, _, hl, hm, hz, _, hcell, _⟩
  · simp at hcs
    obtain ⟨rfl, rfl, rfl⟩ := hcs
    exact ⟨[], rfl, VS.nil, by simp, by simp, fun _ => rfl⟩
  · simp at hcs
    obtain ⟨rfl, rfl, rfl⟩ := hcs
    simp only [if_true] at hz
    refine ⟨ss.take len, by simp; omega, fun i v hi => ?_, by simp; omega, hm, fun e => by cases e⟩
    rw [List.getElem?_map, List.getElem?_take] at hi
    split at hi
    · have hlt : i < ss.length := by omega
      have hc := hcell i hlt
      obtain ⟨b, o, rfl⟩ := lit_of_cell (hcell 0 (by omega))
      rw [Addr.add_lit] at hc
      refine ⟨b, o, rfl, cell_lt hc, ?_⟩
      rw [hc]
      simp [hlt] at hi
      simp [hlt, hi]
    · cases hi
set_option maxRecDepth 100000 in
theorem open_map {v : Value} {base : Nat} {d : DataW H} {p : List MemPlace} (hv : Value.okWide Tryz.prog W .any base 31 v) (h : DataW.Trod enc Tryz.prog W 0 (fun _ => true) true 31 v d p) :
    ∃ m : Mp, v = .agg #[.slice m.A m.cs.length m.ca, .slice m.O m.os.length m.co] ∧ MS W m := by
  obtain ⟨cs, rfl, _⟩ := okWide_struct Tryz.underlying31 hv
  obtain ⟨fuel, hf⟩ := h
  obtain ⟨f0, f1, hu, o0, o1, t0, t1⟩ := mapU
  obtain ⟨xs, k, _, _, hlen, hxl, hff⟩ := DataW.trod_struct hu hf
  rw [cells_map] at hlen
  obtain ⟨v0, v1, rfl⟩ : ∃ v0 v1, cs = #[v0, v1] := by
    obtain ⟨l⟩ := cs
    match l, hlen with
    | [v0, v1], _ => exact ⟨v0, v1, rfl⟩
  match xs, hxl with
  | [y0, y1], _ =>
    have g0 := hff 0 f0 rfl
    have g1 := hff 1 f1 rfl
    rw [o0, t0, cells_strs] at g0
    rw [o1, t1, cells_ints] at g1
    have g0' : DataW.trod enc Tryz.prog W 0 (fun _ => true) true k 29 [v0] = some y0 := g0
    have g1' : DataW.trod enc Tryz.prog W 0 (fun _ => true) true k 22 [v1] = some y1 := g1
    have hs0 : ∃ A len cap, v0 = .slice A len cap := by
      rcases open_slice Tryz.underlying29 g0' with ⟨hcs, _⟩ | ⟨a, len', cap', m, n, D, Pl, hcs, _⟩
      · simp at hcs; exact ⟨_, _, _, hcs⟩
      · simp at hcs; exact ⟨_, _, _, hcs⟩
    have hs1 : ∃ A len cap, v1 = .slice A len cap := by
      rcases open_slice Tryz.underlying22 g1' with ⟨hcs, _⟩ | ⟨a, len', cap', m, n, D, Pl, hcs, _⟩
      · simp at hcs; exact ⟨_, _, _, hcs⟩
      · simp at hcs; exact ⟨_, _, _, hcs⟩
    obtain ⟨A, len, cap, rfl⟩ := hs0
    obtain ⟨O, len1, cap1, rfl⟩ := hs1
    obtain ⟨ys, rfl, h1, h2, h3, h4⟩ := open_ss g0'
    obtain ⟨zs, rfl, k1, k2, k3, k4⟩ := open_is (enc := enc) (d := y1.1) (p := y1.2) ⟨k, g1'⟩
    exact ⟨⟨A, cap, ys, O, cap1, zs⟩, rfl, h1, k1, h2, k2, h3, by unfold maxLen; exact k3, h4, k4⟩
end
end Go.Proofs.YtpefdonhacmaoaaGreat

set_option linter.unusedVariables false
set_option linter.unusedSimpArgs false
namespace Go.Proofs.YtpefdonhacmaoaaGreat
open Go.RowKit Go.ChangeShapes Go.WideShapes Go.Deep

def strV : Value → ByteArray | .string s => s | _ => ByteArray.empty
theorem opU : ∃ f0 f1 f2 f3, Tryz.prog.underlying 57 = some (.struct #[f0, f1, f2, f3]) ∧ f0.offset = 0 ∧ f1.offset = 1 ∧ f2.offset = 2 ∧ f3.offset = 3 ∧ f0.type = 3 ∧ f1.type = 9 ∧ f2.type = 9 ∧ f3.type = 3 := ⟨_, _, _, _, Tryz.underlying57, rfl, rfl, rfl, rfl, rfl, rfl, rfl, rfl⟩
theorem deedU : ∃ f0, Tryz.prog.underlying 39 = some (.struct #[f0]) ∧ f0.offset = 0 ∧ f0.type = 37 := ⟨_, Tryz.underlying39, rfl, rfl⟩
theorem cells_op : Tryz.prog.cellsOf 57 = 4 := by kernel_rfl
theorem cells_deed : Tryz.prog.cellsOf 39 = 1 := by kernel_rfl
theorem cells_ops : Tryz.prog.cellsOf 37 = 1 := by kernel_rfl
theorem cells_int : Tryz.prog.cellsOf 3 = 1 := by kernel_rfl
theorem cells_str : Tryz.prog.cellsOf 9 = 1 := by kernel_rfl
theorem lit0_of_cell {W : World} {a : Addr} {v : Value} (h : W.cell? (a.add 0) = some v) : ∃ b o, a = ⟨b, o, none⟩ := by
  obtain ⟨b, o, sp⟩ := a
  have hsp : sp = none := by simpa [Addr.add] using World.cell?_spot h
  subst hsp
  exact ⟨b, o, rfl⟩

section
variable {H : Type} {enc : TypeId × Value → H} {W : World}
set_option maxRecDepth 100000 in
theorem open_op {n : Nat} {cs : List Value} {x : DataW H × List MemPlace} (h : DataW.trod enc Tryz.prog W 0 (fun _ => true) true n 57 cs = some x) : ∃ o : Opr, cs = [.int .i64 o.kind, .string o.key, .string o.src, .int .i64 o.n] := by
  obtain ⟨f0, f1, f2, f3, hu, o0, o1, o2, o3, t0, t1, t2, t3⟩ := opU
  obtain ⟨xs, k, _, _, hlen, hxl, hf⟩ := DataW.trod_struct hu h
  rw [cells_op] at hlen
  match xs, hxl, cs, hlen with
  | [y0, y1, y2, y3], _, [v0, v1, v2, v3], _ =>
    have g0 := hf 0 f0 rfl
    have g1 := hf 1 f1 rfl
    have g2 := hf 2 f2 rfl
    have g3 := hf 3 f3 rfl
    rw [o0, t0, cells_int] at g0
    rw [o1, t1, cells_str] at g1
    rw [o2, t2, cells_str] at g2
    rw [o3, t3, cells_int] at g3
    obtain ⟨z0, e0, _, _⟩ := DataW.trod_int Tryz.underlying3 g0
    obtain ⟨s1, e1, _, _⟩ := DataW.trod_string Tryz.underlying9 g1
    obtain ⟨s2, e2, _, _⟩ := DataW.trod_string Tryz.underlying9 g2
    obtain ⟨z3, e3, _, _⟩ := DataW.trod_int Tryz.underlying3 g3
    simp at e0 e1 e2 e3
    exact ⟨⟨z0, s1, s2, z3⟩, by rw [e0, e1, e2, e3]⟩
set_option maxRecDepth 100000 in
theorem open_ops {A : Option Addr} {len cap fuel : Nat} {x : DataW H × List MemPlace} (hf : DataW.trod enc Tryz.prog W 0 (fun _ => true) true fuel 37 [.slice A len cap] = some x) :
    ∃ d : List Opr, d.length = len ∧ OS W W.heap.size A d ∧ len ≤ cap ∧ cap ≤ maxLen := by
  rcases open_slice Tryz.underlying37 hf with ⟨hcs, hx⟩ | ⟨a, len', cap', m, n, D, Pl, hcs, _, hl, hm, hmm, _, hx⟩
  · simp at hcs
    obtain ⟨rfl, rfl, rfl⟩ := hcs
    exact ⟨[], rfl, OS.nil, Nat.le_refl _, Nat.zero_le _⟩
  · simp at hcs
    obtain ⟨rfl, rfl, rfl⟩ := hcs
    simp only [if_true] at hmm
    subst hmm
    have each : ∀ i, i < m → ∃ o : Opr, W.cell? (a.add (i * 4)) = some (.int .i64 o.kind) ∧ W.cell? (a.add (i * 4 + 1)) = some (.string o.key) ∧ W.cell? (a.add (i * 4 + 2)) = some (.string o.src) ∧ W.cell? (a.add (i * 4 + 3)) = some (.int .i64 o.n) := fun i hi => by
      obtain ⟨cs', h1, h2⟩ := hx i hi
      rw [cells_op] at h1
      obtain ⟨_, hlen, hcell⟩ := World.cells?_some h1
      obtain ⟨o, rfl⟩ := open_op h2
      have c0 := hcell 0 (by omega)
      have c1 := hcell 1 (by omega)
      have c2 := hcell 2 (by omega)
      have c3 := hcell 3 (by omega)
      rw [add_add] at c0 c1 c2 c3
      exact ⟨o, by simpa using c0, by simpa using c1, by simpa using c2, by simpa using c3⟩
    have : Inhabited Opr := ⟨⟨0, ByteArray.empty, ByteArray.empty, 0⟩⟩
    obtain ⟨q, hq⟩ := choose_lt each
    refine ⟨(List.range len).map q, by simp, fun i p hp => ?_, hl, hm⟩
    have hi : i < len := by
      rcases Nat.lt_or_ge i len with h | h
      · exact h
      · simp [h] at hp
    obtain ⟨b, o, rfl⟩ := lit0_of_cell (by simpa using (hq 0 (by omega)).1)
    obtain ⟨c0, c1, c2, c3⟩ := hq i (by omega)
    rw [Addr.add_lit] at c0 c1 c2 c3
    simp [hi] at hp
    subst hp
    exact ⟨b, o, rfl, cell_lt c0, c0, by rw [Nat.add_assoc]; exact c1, by rw [Nat.add_assoc]; exact c2, by rw [Nat.add_assoc]; exact c3⟩
set_option maxRecDepth 100000 in
/-- a transaction has one cell -/
theorem open_deed_cells {fuel : Nat} {cs : List Value} {x : DataW H × List MemPlace} (hf : DataW.trod enc Tryz.prog W 0 (fun _ => true) true fuel 39 cs = some x) :
    ∃ y : Dl, cs = [dlV y] ∧ OS W W.heap.size y.D y.d := by
  obtain ⟨f0, hu, o0, t0⟩ := deedU
  obtain ⟨xs, k, _, _, hlen, hxl, hff⟩ := DataW.trod_struct hu hf
  rw [cells_deed] at hlen
  match xs, hxl, cs, hlen with
  | [y0], _, [v0], _ =>
    have g0 := hff 0 f0 rfl
    rw [o0, t0, cells_ops] at g0
    have g0' : DataW.trod enc Tryz.prog W 0 (fun _ => true) true k 37 [v0] = some y0 := g0
    have hs : ∃ A len cap, v0 = .slice A len cap := by
      rcases open_slice Tryz.underlying37 g0' with ⟨hcs, _⟩ | ⟨a, len', cap', m, n, D, Pl, hcs, _⟩
      · simp at hcs; exact ⟨_, _, _, hcs⟩
      · simp at hcs; exact ⟨_, _, _, hcs⟩
    obtain ⟨A, len, cap, rfl⟩ := hs
    obtain ⟨d, rfl, hos, _, _⟩ := open_ops g0'
    exact ⟨⟨A, cap, d⟩, rfl, hos⟩
set_option maxRecDepth 100000 in
theorem open_deed {v : Value} {base : Nat} {d : DataW H} {p : List MemPlace} (hv : Value.okWide Tryz.prog W .any base 39 v) (h : DataW.Trod enc Tryz.prog W 0 (fun _ => true) true 39 v d p) :
    ∃ (D : Option Addr) (c : Nat) (l : List Opr), v = .agg #[.slice D l.length c] ∧ OS W W.heap.size D l := by
  obtain ⟨cs, rfl, _⟩ := okWide_struct Tryz.underlying39 hv
  obtain ⟨fuel, hf⟩ := h
  obtain ⟨y, hy, hos⟩ := open_deed_cells hf
  have : cs = #[dlV y] := by
    have : cs.toList = [dlV y] := by simpa [Value.cells] using hy
    cases cs; simp_all
  exact ⟨y.D, y.c, y.d, by rw [this]; rfl, hos⟩
set_option maxRecDepth 100000 in
theorem open_deeds_len {A : Option Addr} {len cap : Nat} {d : DataW H} {p : List MemPlace} (h : DataW.Trod enc Tryz.prog W 0 (fun _ => true) true 35 (.slice A len cap) d p) : len ≤ 9223372036854775807 := by
  obtain ⟨fuel, hf⟩ := h
  rcases open_slice Tryz.underlying35 hf with ⟨hcs, hx⟩ | ⟨a, len', cap', m, n, D, Pl, hcs, _, hl, hm, hmm, _, hx⟩
  · simp [Value.cells] at hcs
    obtain ⟨rfl, rfl, rfl⟩ := hcs
    omega
  · simp [Value.cells] at hcs
    obtain ⟨rfl, rfl, rfl⟩ := hcs
    unfold maxLen at hm
    omega
theorem open_deeds {A : Option Addr} {len cap : Nat} {d : DataW H} {p : List MemPlace} (h : DataW.Trod enc Tryz.prog W 0 (fun _ => true) true 35 (.slice A len cap) d p) :
    ∃ ds : List Dl, ds.length = len ∧ DS W A ds := by
  obtain ⟨fuel, hf⟩ := h
  rcases open_slice Tryz.underlying35 hf with ⟨hcs, hx⟩ | ⟨a, len', cap', m, n, D, Pl, hcs, _, hl, hm, hmm, _, hx⟩
  · simp [Value.cells] at hcs
    obtain ⟨rfl, rfl, rfl⟩ := hcs
    exact ⟨[], rfl, VS.nil, by simp⟩
  · simp [Value.cells] at hcs
    obtain ⟨rfl, rfl, rfl⟩ := hcs
    simp only [if_true] at hmm
    subst hmm
    have each : ∀ i, i < m → ∃ y : Dl, W.cell? (a.add i) = some (dlV y) ∧ OS W W.heap.size y.D y.d := fun i hi => by
      obtain ⟨cs', h1, h2⟩ := hx i hi
      rw [cells_deed] at h1
      obtain ⟨_, hlen, hcell⟩ := World.cells?_some h1
      obtain ⟨y, rfl, hos⟩ := open_deed_cells h2
      have c0 := hcell 0 (by omega)
      rw [add_add] at c0
      exact ⟨y, by simpa using c0, hos⟩
    have : Inhabited Dl := ⟨⟨none, 0, []⟩⟩
    obtain ⟨q, hq⟩ := choose_lt each
    refine ⟨(List.range len).map q, by simp, fun i v hv => ?_, fun x hx => ?_⟩
    · have hi : i < len := by
        rcases Nat.lt_or_ge i len with h | h
        · exact h
        · simp [h] at hv
      obtain ⟨b, o, rfl⟩ := lit0_of_cell (hq 0 (by omega)).1
      have c0 := (hq i (by omega)).1
      rw [Addr.add_lit] at c0
      simp [hi] at hv
      exact ⟨b, o, rfl, cell_lt c0, by rw [c0, hv]⟩
    · simp at hx
      obtain ⟨i, hi, rfl⟩ := hx
      exact (hq i (by omega)).2
end
end Go.Proofs.YtpefdonhacmaoaaGreat
