/-
  Transactions, and slices of them, that came in, opened.
-/
import Derived.Test.YtkdcdnefmcfpnaaGreatDoorDDs
import Derived.ProofKit
import Derived.OpenShut
import Derived.Deep.SlicePairs
import Derived.SizedLaws
set_option linter.unusedVariables false
set_option linter.unusedSimpArgs false
namespace Go.Proofs.YtkdcdnefmcfpnaaGreatDoor
open Go.RowKit Go.ChangeShapes Go.WideShapes Go.Deep

def strVu : Value → ByteArray | .string s => s | _ => ByteArray.empty
/-- its number is one -/
def bdN (o : Opr) : Prop := -9223372036854775808 ≤ o.n ∧ o.n ≤ 9223372036854775807
theorem bd_wf {a : Int} {b c : ByteArray} {n : Int} (h : (Lit.int .i64 n).wf = true) : bdN ⟨a, b, c, n⟩ := by
  have e1 : IntKind.i64.min = -9223372036854775808 := by decide
  have e2 : IntKind.i64.max = 9223372036854775807 := by decide
  simp [Lit.wf, e1, e2] at h
  unfold bdN
  simp only
  omega
theorem opUu : ∃ f0 f1 f2 f3, Tryz.prog.underlying 101 = some (.struct #[f0, f1, f2, f3]) ∧ f0.offset = 0 ∧ f1.offset = 1 ∧ f2.offset = 2 ∧ f3.offset = 3 ∧ f0.type = 3 ∧ f1.type = 9 ∧ f2.type = 9 ∧ f3.type = 3 := ⟨_, _, _, _, Tryz.underlying101, rfl, rfl, rfl, rfl, rfl, rfl, rfl, rfl⟩
theorem deedUu : ∃ f0, Tryz.prog.underlying 24 = some (.struct #[f0]) ∧ f0.offset = 0 ∧ f0.type = 22 := ⟨_, Tryz.underlying24, rfl, rfl⟩
theorem cells_opu : Tryz.prog.cellsOf 101 = 4 := by kernel_rfl
theorem cells_deedu : Tryz.prog.cellsOf 24 = 1 := by kernel_rfl
theorem cells_opsu : Tryz.prog.cellsOf 22 = 1 := by kernel_rfl
theorem cells_intu : Tryz.prog.cellsOf 3 = 1 := by kernel_rfl
theorem cells_stru : Tryz.prog.cellsOf 9 = 1 := by kernel_rfl
theorem lit0_of_cellu {W : World} {a : Addr} {v : Value} (h : W.cell? (a.add 0) = some v) : ∃ b o, a = ⟨b, o, none⟩ := by
  obtain ⟨b, o, sp⟩ := a
  have hsp : sp = none := by simpa [Addr.add] using World.cell?_spot h
  subst hsp
  exact ⟨b, o, rfl⟩

section
variable {H : Type} {enc : TypeId × Value → H} {W : World}
set_option maxRecDepth 100000 in
theorem open_opu {n : Nat} {cs : List Value} {x : DataW H × List MemPlace} (h : DataW.trod enc Tryz.prog W 0 (fun _ => true) true n 101 cs = some x) : ∃ o : Opr, cs = [.int .i64 o.kind, .string o.key, .string o.src, .int .i64 o.n] ∧ bdN o := by
  obtain ⟨f0, f1, f2, f3, hu, o0, o1, o2, o3, t0, t1, t2, t3⟩ := opUu
  obtain ⟨xs, k, _, _, hlen, hxl, hf⟩ := DataW.trod_struct hu h
  rw [cells_opu] at hlen
  match xs, hxl, cs, hlen with
  | [y0, y1, y2, y3], _, [v0, v1, v2, v3], _ =>
    have g0 := hf 0 f0 rfl
    have g1 := hf 1 f1 rfl
    have g2 := hf 2 f2 rfl
    have g3 := hf 3 f3 rfl
    rw [o0, t0, cells_intu] at g0
    rw [o1, t1, cells_stru] at g1
    rw [o2, t2, cells_stru] at g2
    rw [o3, t3, cells_intu] at g3
    obtain ⟨z0, e0, _, _⟩ := DataW.trod_int Tryz.underlying3 g0
    obtain ⟨s1, e1, _, _⟩ := DataW.trod_string Tryz.underlying9 g1
    obtain ⟨s2, e2, _, _⟩ := DataW.trod_string Tryz.underlying9 g2
    obtain ⟨z3, e3, _, w3⟩ := DataW.trod_int Tryz.underlying3 g3
    simp at e0 e1 e2 e3
    exact ⟨⟨z0, s1, s2, z3⟩, by rw [e0, e1, e2, e3], bd_wf w3⟩
set_option maxRecDepth 100000 in
theorem open_opsu {A : Option Addr} {len cap fuel : Nat} {x : DataW H × List MemPlace} (hf : DataW.trod enc Tryz.prog W 0 (fun _ => true) true fuel 22 [.slice A len cap] = some x) :
    ∃ d : List Opr, d.length = len ∧ OS W W.heap.size A d ∧ len ≤ cap ∧ cap ≤ maxLen ∧ ∀ o ∈ d, bdN o := by
  rcases open_slice Tryz.underlying22 hf with ⟨hcs, hx⟩ | ⟨a, len', cap', m, n, D, Pl, hcs, _, hl, hm, hmm, _, hx⟩
  · simp at hcs
    obtain ⟨rfl, rfl, rfl⟩ := hcs
    exact ⟨[], rfl, OS.nil, Nat.le_refl _, Nat.zero_le _, by simp⟩
  · simp at hcs
    obtain ⟨rfl, rfl, rfl⟩ := hcs
    simp only [if_true] at hmm
    subst hmm
    have each : ∀ i, i < m → ∃ o : Opr, W.cell? (a.add (i * 4)) = some (.int .i64 o.kind) ∧ W.cell? (a.add (i * 4 + 1)) = some (.string o.key) ∧ W.cell? (a.add (i * 4 + 2)) = some (.string o.src) ∧ W.cell? (a.add (i * 4 + 3)) = some (.int .i64 o.n) ∧ bdN o := fun i hi => by
      obtain ⟨cs', h1, h2⟩ := hx i hi
      rw [cells_opu] at h1
      obtain ⟨_, hlen, hcell⟩ := World.cells?_some h1
      obtain ⟨o, rfl, hbo⟩ := open_opu h2
      have c0 := hcell 0 (by omega)
      have c1 := hcell 1 (by omega)
      have c2 := hcell 2 (by omega)
      have c3 := hcell 3 (by omega)
      rw [add_add] at c0 c1 c2 c3
      exact ⟨o, by simpa using c0, by simpa using c1, by simpa using c2, by simpa using c3, hbo⟩
    have : Inhabited Opr := ⟨⟨0, ByteArray.empty, ByteArray.empty, 0⟩⟩
    obtain ⟨q, hq⟩ := choose_lt each
    refine ⟨(List.range len).map q, by simp, fun i p hp => ?_, hl, hm, fun o ho => ?_⟩
    rotate_left
    · obtain ⟨i, hi, rfl⟩ := List.mem_map.1 ho
      exact (hq i (by have := List.mem_range.1 hi; omega)).2.2.2.2
    have hi : i < len := by
      rcases Nat.lt_or_ge i len with h | h
      · exact h
      · simp [h] at hp
    obtain ⟨b, o, rfl⟩ := lit0_of_cellu (by simpa using (hq 0 (by omega)).1)
    obtain ⟨c0, c1, c2, c3, _⟩ := hq i (by omega)
    rw [Addr.add_lit] at c0 c1 c2 c3
    simp [hi] at hp
    subst hp
    exact ⟨b, o, rfl, cell_lt c0, c0, by rw [Nat.add_assoc]; exact c1, by rw [Nat.add_assoc]; exact c2, by rw [Nat.add_assoc]; exact c3⟩
set_option maxRecDepth 100000 in
/-- a transaction has one cell -/
theorem open_deed_cellsu {fuel : Nat} {cs : List Value} {x : DataW H × List MemPlace} (hf : DataW.trod enc Tryz.prog W 0 (fun _ => true) true fuel 24 cs = some x) :
    ∃ y : Dl, cs = [dlV y] ∧ OS W W.heap.size y.D y.d ∧ (∀ o ∈ y.d, bdN o) ∧ y.d.length ≤ maxLen := by
  obtain ⟨f0, hu, o0, t0⟩ := deedUu
  obtain ⟨xs, k, _, _, hlen, hxl, hff⟩ := DataW.trod_struct hu hf
  rw [cells_deedu] at hlen
  match xs, hxl, cs, hlen with
  | [y0], _, [v0], _ =>
    have g0 := hff 0 f0 rfl
    rw [o0, t0, cells_opsu] at g0
    have g0' : DataW.trod enc Tryz.prog W 0 (fun _ => true) true k 22 [v0] = some y0 := g0
    have hs : ∃ A len cap, v0 = .slice A len cap := by
      rcases open_slice Tryz.underlying22 g0' with ⟨hcs, _⟩ | ⟨a, len', cap', m, n, D, Pl, hcs, _⟩
      · simp at hcs; exact ⟨_, _, _, hcs⟩
      · simp at hcs; exact ⟨_, _, _, hcs⟩
    obtain ⟨A, len, cap, rfl⟩ := hs
    obtain ⟨d, rfl, hos, h1, h2, h3⟩ := open_opsu g0'
    exact ⟨⟨A, cap, d⟩, rfl, hos, h3, Nat.le_trans h1 h2⟩
set_option maxRecDepth 100000 in
theorem open_deedu {v : Value} {base : Nat} {d : DataW H} {p : List MemPlace} (hv : Value.okWide Tryz.prog W .any base 24 v) (h : DataW.Trod enc Tryz.prog W 0 (fun _ => true) true 24 v d p) :
    ∃ (D : Option Addr) (c : Nat) (l : List Opr), v = .agg #[.slice D l.length c] ∧ OS W W.heap.size D l ∧ (∀ o ∈ l, bdN o) ∧ l.length ≤ maxLen := by
  obtain ⟨cs, rfl, _⟩ := okWide_struct Tryz.underlying24 hv
  obtain ⟨fuel, hf⟩ := h
  obtain ⟨y, hy, hos, hbd, hml⟩ := open_deed_cellsu hf
  have : cs = #[dlV y] := by
    have : cs.toList = [dlV y] := by simpa [Value.cells] using hy
    cases cs; simp_all
  exact ⟨y.D, y.c, y.d, by rw [this]; rfl, hos, hbd, hml⟩
end
end Go.Proofs.YtkdcdnefmcfpnaaGreatDoor
