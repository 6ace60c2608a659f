/-
  Partition maps that came in, opened.
-/
import Derived.Test.YtkdcdnefmcfpnaaGreatDoorOpenI
import Derived.Test.YtkdcdnefmcfpnaaGreatDoorMp
import Derived.SliceStrings
set_option linter.unusedVariables false
set_option linter.unusedSimpArgs false
namespace Go.Proofs.YtkdcdnefmcfpnaaGreatDoor
open Go.RowKit Go.ChangeShapes Go.WideShapes Go.Deep

theorem mapU : ∃ f0 f1, Tryz.prog.underlying 28 = some (.struct #[f0, f1]) ∧ f0.offset = 0 ∧ f1.offset = 1 ∧ f0.type = 25 ∧ f1.type = 26 := ⟨_, _, Tryz.underlying28, rfl, rfl, rfl, rfl⟩
theorem cells_map : Tryz.prog.cellsOf 28 = 2 := by kernel_rfl
theorem cells_strs : Tryz.prog.cellsOf 25 = 1 := by kernel_rfl
theorem cells_ints : Tryz.prog.cellsOf 26 = 1 := by kernel_rfl
section
variable {H : Type} {enc : TypeId × Value → H} {W : World}
theorem open_ss {A : Option Addr} {len cap fuel : Nat} {x : DataW H × List MemPlace} (hf : DataW.trod enc Tryz.prog W 0 (fun _ => true) true fuel 25 [.slice A len cap] = some x) :
    ∃ ys : List ByteArray, len = ys.length ∧ VS W A (ys.map Value.string) ∧ ys.length ≤ cap ∧ cap ≤ maxLen ∧ (A = none → cap = 0) := by
  rcases open_strings Tryz.underlying25 Tryz.underlying9 (by kernel_rfl) hf with ⟨hcs, _⟩ | ⟨a, l, c, ss, hcs, _, hl, hm, hz, _, hcell, _⟩
  · simp at hcs
    obtain ⟨rfl, rfl, rfl⟩ := hcs
    exact ⟨[], rfl, VS.nil, by simp, by simp, fun _ => rfl⟩
  · simp at hcs
    obtain ⟨rfl, rfl, rfl⟩ := hcs
    simp only [if_true] at hz
    refine ⟨ss.take len, by simp; omega, fun i v hi => ?_, by simp; omega, hm, fun e => by cases e⟩
    rw [List.getElem?_map, List.getElem?_take] at hi
    split at hi
    · have hlt : i < ss.length := by omega
      have hc := hcell i hlt
      obtain ⟨b, o, rfl⟩ := lit_of_cell (hcell 0 (by omega))
      rw [Addr.add_lit] at hc
      refine ⟨b, o, rfl, cell_lt hc, ?_⟩
      rw [hc]
      simp [hlt] at hi
      simp [hlt, hi]
    · cases hi
set_option maxRecDepth 100000 in
theorem open_map {v : Value} {base : Nat} {d : DataW H} {p : List MemPlace} (hv : Value.okWide Tryz.prog W .any base 28 v) (h : DataW.Trod enc Tryz.prog W 0 (fun _ => true) true 28 v d p) :
    ∃ m : Mp, v = .agg #[.slice m.A m.cs.length m.ca, .slice m.O m.os.length m.co] ∧ MS W m := by
  obtain ⟨cs, rfl, _⟩ := okWide_struct Tryz.underlying28 hv
  obtain ⟨fuel, hf⟩ := h
  obtain ⟨f0, f1, hu, o0, o1, t0, t1⟩ := mapU
  obtain ⟨xs, k, _, _, hlen, hxl, hff⟩ := DataW.trod_struct hu hf
  rw [cells_map] at hlen
  obtain ⟨v0, v1, rfl⟩ : ∃ v0 v1, cs = #[v0, v1] := by
    obtain ⟨l⟩ := cs
    match l, hlen with
    | [v0, v1], _ => exact ⟨v0, v1, rfl⟩
  match xs, hxl with
  | [y0, y1], _ =>
    have g0 := hff 0 f0 rfl
    have g1 := hff 1 f1 rfl
    rw [o0, t0, cells_strs] at g0
    rw [o1, t1, cells_ints] at g1
    have g0' : DataW.trod enc Tryz.prog W 0 (fun _ => true) true k 25 [v0] = some y0 := g0
    have g1' : DataW.trod enc Tryz.prog W 0 (fun _ => true) true k 26 [v1] = some y1 := g1
    have hs0 : ∃ A len cap, v0 = .slice A len cap := by
      rcases open_slice Tryz.underlying25 g0' with ⟨hcs, _⟩ | ⟨a, len', cap', m, n, D, Pl, hcs, _⟩
      · simp at hcs; exact ⟨_, _, _, hcs⟩
      · simp at hcs; exact ⟨_, _, _, hcs⟩
    have hs1 : ∃ A len cap, v1 = .slice A len cap := by
      rcases open_slice Tryz.underlying26 g1' with ⟨hcs, _⟩ | ⟨a, len', cap', m, n, D, Pl, hcs, _⟩
      · simp at hcs; exact ⟨_, _, _, hcs⟩
      · simp at hcs; exact ⟨_, _, _, hcs⟩
    obtain ⟨A, len, cap, rfl⟩ := hs0
    obtain ⟨O, len1, cap1, rfl⟩ := hs1
    obtain ⟨ys, rfl, h1, h2, h3, h4⟩ := open_ss g0'
    obtain ⟨zs, rfl, k1, k2, k3, k4⟩ := open_is (enc := enc) (d := y1.1) (p := y1.2) ⟨k, g1'⟩
    exact ⟨⟨A, cap, ys, O, cap1, zs⟩, rfl, h1, k1, h2, k2, h3, by unfold maxLen; exact k3, h4, k4⟩
end
end Go.Proofs.YtkdcdnefmcfpnaaGreatDoor
