/-
  A slice of pairs that came in, opened.
  Slices of ints that came in, opened.
  Partition maps that came in, opened.
  Slices of partition maps that came in, opened; how long slices of small bulk are.
  Slices of ints, and slices of slices of ints, that came in, opened.
-/
import Derived.Test.YtpefdonhacmaoaaGreatDoorBd33
import Derived.ProofKit
import Derived.OpenShut
import Derived.Deep.SlicePairs
import Derived.SizedLaws
import Derived.Test.YtpefdonhacmaoaaGreatDoorBd3
import Derived.Deep.Matrix
import Derived.Test.YtpefdonhacmaoaaGreatDoorBd36
import Derived.SliceStrings
import Derived.Test.YtpefdonhacmaoaaGreatDoorBd31
import Derived.Test.YtpefdonhacmaoaaGreatDoorRows
set_option linter.unusedVariables false
set_option linter.unusedSimpArgs false
namespace Go.Proofs.YtpefdonhacmaoaaGreatDoor
open Go.RowKit Go.ChangeShapes Go.WideShapes Go.Deep

def strOf : Value → ByteArray | .string s => s | _ => ByteArray.empty
theorem pairU : ∃ f0 f1, Tryz.prog.underlying 55 = some (.struct #[f0, f1]) ∧ f0.offset = 0 ∧ f1.offset = 1 ∧ f0.type = 9 ∧ f1.type = 3 := ⟨_, _, Tryz.underlying55, rfl, rfl, rfl, rfl⟩
theorem open_pairs {H : Type} {enc : TypeId × Value → H} {W : World} {A : Option Addr} {len cap : Nat} {d : DataW H} {p : List MemPlace} (h : DataW.Trod enc Tryz.prog W 0 (fun _ => true) true 26 (.slice A len cap) d p) :
    ∃ l : List Pr, l.length = len ∧ SV W A cap l ∧ Rd l ∧ (d = .nil ∧ len = 0 ∨ ∃ es sp, d = .slice es sp ∧ es.length = len) := by
  obtain ⟨fuel, hf⟩ := h
  obtain ⟨f0, f1, hu, o0, o1, t0, t1⟩ := pairU
  rcases open_slice_pairs Tryz.underlying26 hu (by kernel_rfl) o0 o1 (by rw [t0]; kernel_rfl) (by rw [t1]; kernel_rfl) hf with ⟨hcs, hx⟩ | ⟨a, len', cap', m, n, V0, V1, D0, D1, P0, P1, hcs, _, hl, hm, hmm, hx, hc⟩
  · simp [Value.cells] at hcs
    obtain ⟨rfl, rfl, rfl⟩ := hcs
    simp only [Prod.mk.injEq] at hx
    exact ⟨[], rfl, SV.nil W, fun p hp => by simp at hp, .inl ⟨hx.1, rfl⟩⟩
  · simp [Value.cells] at hcs
    obtain ⟨rfl, rfl, rfl⟩ := hcs
    simp only [if_true] at hmm
    subst hmm
    simp only [Prod.mk.injEq] at hx
    have hs : ∀ i, i < m → ∃ s n, V0 i = .string s ∧ V1 i = .int .i64 n ∧ s.size ≤ maxLen ∧ (Lit.int .i64 n).wf = true := fun i hi => by
      obtain ⟨_, _, h3, h4⟩ := hc i hi
      rw [t0] at h3
      rw [t1] at h4
      obtain ⟨s, e1, _, e2⟩ := DataW.trod_string Tryz.underlying9 h3
      obtain ⟨z, e3, _, e4⟩ := DataW.trod_int Tryz.underlying3 h4
      exact ⟨s, z, by simpa using e1, by simpa using e3, e2, e4⟩
    have hlit : ∀ i, i < m → ∃ b o, a = ⟨b, o, none⟩ := fun i hi => by
      have h0 := (hc 0 (by omega)).1
      obtain ⟨b, o, sp⟩ := a
      have hsp : sp = none := by simpa [Addr.add] using World.cell?_spot h0
      subst hsp
      exact ⟨b, o, rfl⟩
    refine ⟨(List.range len).map fun i => (strOf (V0 i), intOf (V1 i)), by simp, ⟨fun i q hq => ?_, by simpa using hl, hm, (fun e => by cases e), fun h0 x hx => ?_⟩, fun q hq => ?_, .inr ⟨_, _, hx.1, by simp⟩⟩
    · have hi : i < len := by
        rcases Nat.lt_or_ge i len with h | h
        · exact h
        · simp [h] at hq
      obtain ⟨b, o, rfl⟩ := hlit i (by omega)
      obtain ⟨s, z, e1, e2, _, _⟩ := hs i (by omega)
      obtain ⟨c1, c2, _, _⟩ := hc i (by omega)
      simp [hi, e1, e2, strOf, intOf] at hq
      subst hq
      rw [Addr.add_lit, e1] at c1
      rw [Addr.add_lit, e2, ← Nat.add_assoc] at c2
      exact ⟨b, o, rfl, cell_lt c1, c1, c2⟩
    · injection hx with hx
      obtain ⟨b, o, rfl⟩ := hlit 0 h0
      exact ⟨b, o, hx.symm⟩
    · simp at hq
      obtain ⟨i, hi, rfl⟩ := hq
      obtain ⟨s, z, e1, e2, e3, e4⟩ := hs i (by omega)
      simp [e1, e2, strOf, intOf]
      exact ⟨e3, e4⟩
theorem pair_bytes : Tryz.prog.bytesOf 55 = 24 := by kernel_rfl
theorem reach : reachBytes = 140737488351232 := by decide
end Go.Proofs.YtpefdonhacmaoaaGreatDoor

set_option linter.unusedVariables false
set_option linter.unusedSimpArgs false
namespace Go.Proofs.YtpefdonhacmaoaaGreatDoor
open Go.RowKit Go.ChangeShapes Go.WideShapes Go.Deep

theorem lit_of_cell {W : World} {a : Addr} {v : Value} (h : W.cell? (a.add 0) = some v) : ∃ b o, a = ⟨b, o, none⟩ := by
  obtain ⟨b, o, sp⟩ := a
  have hsp : sp = none := by simpa [Addr.add] using World.cell?_spot h
  subst hsp
  exact ⟨b, o, rfl⟩
theorem open_is {H : Type} {enc : TypeId × Value → H} {W : World} {A : Option Addr} {len cap : Nat} {d : DataW H} {p : List MemPlace} (h : DataW.Trod enc Tryz.prog W 0 (fun _ => true) true 23 (.slice A len cap) d p) :
    ∃ ys : List Int, len = ys.length ∧ IS W A ys ∧ ys.length ≤ cap ∧ cap ≤ 9223372036854775807 ∧ (A = none → cap = 0) := by
  obtain ⟨fuel, hf⟩ := h
  rcases open_ints Tryz.underlying23 Tryz.underlying3 (by kernel_rfl) hf with ⟨hcs, _⟩ | ⟨x, l, c, zs, hcs, _, hl, hm, hz, _, hcell, hwz⟩
  · simp [Value.cells] at hcs
    obtain ⟨rfl, rfl, rfl⟩ := hcs
    exact ⟨[], rfl, fun i z hz => by simp at hz, by simp, by simp, fun _ => rfl⟩
  · simp [Value.cells] at hcs
    obtain ⟨rfl, rfl, rfl⟩ := hcs
    simp only [if_true] at hz
    refine ⟨zs.take len, by simp; omega, fun i z hi => ?_, by simp; omega, by unfold maxLen at hm; exact hm, fun e => by cases e⟩
    rw [List.getElem?_take] at hi
    split at hi
    · have hlt : i < zs.length := by omega
      have hc := hcell i hlt
      obtain ⟨b, o, rfl⟩ := lit_of_cell (hcell 0 (by omega))
      rw [Addr.add_lit] at hc
      refine ⟨b, o, rfl, cell_lt hc, ?_⟩
      rw [hc]
      simp [hlt] at hi
      simp [hlt, hi]
    · cases hi
end Go.Proofs.YtpefdonhacmaoaaGreatDoor

set_option linter.unusedVariables false
set_option linter.unusedSimpArgs false
namespace Go.Proofs.YtpefdonhacmaoaaGreatDoor
open Go.RowKit Go.ChangeShapes Go.WideShapes Go.Deep

theorem mapU : ∃ f0 f1, Tryz.prog.underlying 25 = some (.struct #[f0, f1]) ∧ f0.offset = 0 ∧ f1.offset = 1 ∧ f0.type = 22 ∧ f1.type = 23 := ⟨_, _, Tryz.underlying25, rfl, rfl, rfl, rfl⟩
theorem cells_map : Tryz.prog.cellsOf 25 = 2 := by kernel_rfl
theorem cells_strs : Tryz.prog.cellsOf 22 = 1 := by kernel_rfl
theorem cells_ints : Tryz.prog.cellsOf 23 = 1 := by kernel_rfl
section
variable {H : Type} {enc : TypeId × Value → H} {W : World}
theorem open_ss {A : Option Addr} {len cap fuel : Nat} {x : DataW H × List MemPlace} (hf : DataW.trod enc Tryz.prog W 0 (fun _ => true) true fuel 22 [.slice A len cap] = some x) :
    ∃ ys : List ByteArray, len = ys.length ∧ VS W A (ys.map Value.string) ∧ ys.length ≤ cap ∧ cap ≤ maxLen ∧ (A = none → cap = 0) := by
  rcases open_strings Tryz.underlying22 Tryz.underlying9 (by kernel_rfl) hf with ⟨hcs, _⟩ | ⟨a, l, c, ss, hcs, _, hl, hm, hz, _, hcell, _⟩
  · simp at hcs
    obtain ⟨rfl, rfl, rfl⟩ := hcs
    exact ⟨[], rfl, VS.nil, by simp, by simp, fun _ => rfl⟩
  · simp at hcs
    obtain ⟨rfl, rfl, rfl⟩ := hcs
    simp only [if_true] at hz
    refine ⟨ss.take len, by simp; omega, fun i v hi => ?_, by simp; omega, hm, fun e => by cases e⟩
    rw [List.getElem?_map, List.getElem?_take] at hi
    split at hi
    · have hlt : i < ss.length := by omega
      have hc := hcell i hlt
      obtain ⟨b, o, rfl⟩ := lit_of_cell (hcell 0 (by omega))
      rw [Addr.add_lit] at hc
      refine ⟨b, o, rfl, cell_lt hc, ?_⟩
      rw [hc]
      simp [hlt] at hi
      simp [hlt, hi]
    · cases hi
set_option maxRecDepth 100000 in
theorem open_map {v : Value} {base : Nat} {d : DataW H} {p : List MemPlace} (hv : Value.okWide Tryz.prog W .any base 25 v) (h : DataW.Trod enc Tryz.prog W 0 (fun _ => true) true 25 v d p) :
    ∃ m : Mp, v = .agg #[.slice m.A m.cs.length m.ca, .slice m.O m.os.length m.co] ∧ MS W m := by
  obtain ⟨cs, rfl, _⟩ := okWide_struct Tryz.underlying25 hv
  obtain ⟨fuel, hf⟩ := h
  obtain ⟨f0, f1, hu, o0, o1, t0, t1⟩ := mapU
  obtain ⟨xs, k, _, _, hlen, hxl, hff⟩ := DataW.trod_struct hu hf
  rw [cells_map] at hlen
  obtain ⟨v0, v1, rfl⟩ : ∃ v0 v1, cs = #[v0, v1] := by
    obtain ⟨l⟩ := cs
    match l, hlen with
    | [v0, v1], _ => exact ⟨v0, v1, rfl⟩
  match xs, hxl with
  | [y0, y1], _ =>
    have g0 := hff 0 f0 rfl
    have g1 := hff 1 f1 rfl
    rw [o0, t0, cells_strs] at g0
    rw [o1, t1, cells_ints] at g1
    have g0' : DataW.trod enc Tryz.prog W 0 (fun _ => true) true k 22 [v0] = some y0 := g0
    have g1' : DataW.trod enc Tryz.prog W 0 (fun _ => true) true k 23 [v1] = some y1 := g1
    have hs0 : ∃ A len cap, v0 = .slice A len cap := by
      rcases open_slice Tryz.underlying22 g0' with ⟨hcs, _⟩ | ⟨a, len', cap', m, n, D, Pl, hcs, _⟩
      · simp at hcs; exact ⟨_, _, _, hcs⟩
      · simp at hcs; exact ⟨_, _, _, hcs⟩
    have hs1 : ∃ A len cap, v1 = .slice A len cap := by
      rcases open_slice Tryz.underlying23 g1' with ⟨hcs, _⟩ | ⟨a, len', cap', m, n, D, Pl, hcs, _⟩
      · simp at hcs; exact ⟨_, _, _, hcs⟩
      · simp at hcs; exact ⟨_, _, _, hcs⟩
    obtain ⟨A, len, cap, rfl⟩ := hs0
    obtain ⟨O, len1, cap1, rfl⟩ := hs1
    obtain ⟨ys, rfl, h1, h2, h3, h4⟩ := open_ss g0'
    obtain ⟨zs, rfl, k1, k2, k3, k4⟩ := open_is (enc := enc) (d := y1.1) (p := y1.2) ⟨k, g1'⟩
    exact ⟨⟨A, cap, ys, O, cap1, zs⟩, rfl, h1, k1, h2, k2, h3, by unfold maxLen; exact k3, h4, k4⟩
end
end Go.Proofs.YtpefdonhacmaoaaGreatDoor

set_option linter.unusedVariables false
set_option linter.unusedSimpArgs false
namespace Go.Proofs.YtpefdonhacmaoaaGreatDoor
open Go.RowKit Go.ChangeShapes Go.WideShapes Go.Deep

section
variable {H : Type} {enc : TypeId × Value → H} {W : World}
set_option maxRecDepth 100000 in
theorem open_map_cells {fuel : Nat} {cs : List Value} {x : DataW H × List MemPlace} (hf : DataW.trod enc Tryz.prog W 0 (fun _ => true) true fuel 25 cs = some x) :
    ∃ m : Mp, cs = [.slice m.A m.cs.length m.ca, .slice m.O m.os.length m.co] ∧ MS W m := by
  obtain ⟨f0, f1, hu, o0, o1, t0, t1⟩ := mapU
  obtain ⟨xs, k, _, _, hlen, hxl, hff⟩ := DataW.trod_struct hu hf
  rw [cells_map] at hlen
  match xs, hxl, cs, hlen with
  | [y0, y1], _, [v0, v1], _ =>
    have g0 := hff 0 f0 rfl
    have g1 := hff 1 f1 rfl
    rw [o0, t0, cells_strs] at g0
    rw [o1, t1, cells_ints] at g1
    have g0' : DataW.trod enc Tryz.prog W 0 (fun _ => true) true k 22 [v0] = some y0 := g0
    have g1' : DataW.trod enc Tryz.prog W 0 (fun _ => true) true k 23 [v1] = some y1 := g1
    have hs0 : ∃ A len cap, v0 = .slice A len cap := by
      rcases open_slice Tryz.underlying22 g0' with ⟨hcs, _⟩ | ⟨a, len', cap', m, n, D, Pl, hcs, _⟩
      · simp at hcs; exact ⟨_, _, _, hcs⟩
      · simp at hcs; exact ⟨_, _, _, hcs⟩
    have hs1 : ∃ A len cap, v1 = .slice A len cap := by
      rcases open_slice Tryz.underlying23 g1' with ⟨hcs, _⟩ | ⟨a, len', cap', m, n, D, Pl, hcs, _⟩
      · simp at hcs; exact ⟨_, _, _, hcs⟩
      · simp at hcs; exact ⟨_, _, _, hcs⟩
    obtain ⟨A, len, cap, rfl⟩ := hs0
    obtain ⟨O, len1, cap1, rfl⟩ := hs1
    obtain ⟨ys, rfl, h1, h2, h3, h4⟩ := open_ss g0'
    obtain ⟨zs, rfl, k1, k2, k3, k4⟩ := open_is (enc := enc) (d := y1.1) (p := y1.2) ⟨k, g1'⟩
    exact ⟨⟨A, cap, ys, O, cap1, zs⟩, rfl, h1, k1, h2, k2, h3, by unfold maxLen; exact k3, h4, k4⟩
theorem lit0_of_cell_ {a : Addr} {v : Value} (h : W.cell? (a.add 0) = some v) : ∃ b o, a = ⟨b, o, none⟩ := by
  obtain ⟨b, o, sp⟩ := a
  have hsp : sp = none := by simpa [Addr.add] using World.cell?_spot h
  subst hsp
  exact ⟨b, o, rfl⟩
set_option maxRecDepth 100000 in
theorem open_maps {A : Option Addr} {len cap : Nat} {d : DataW H} {p : List MemPlace} (h : DataW.Trod enc Tryz.prog W 0 (fun _ => true) true 29 (.slice A len cap) d p) :
    ∃ ms : List Mp, len = ms.length ∧ MSs W A ms ∧ len ≤ 9223372036854775807 := by
  obtain ⟨fuel, hf⟩ := h
  rcases open_slice Tryz.underlying29 hf with ⟨hcs, hx⟩ | ⟨a, len', cap', m, n, D, Pl, hcs, _, hl, hm, hmm, _, hx⟩
  · simp [Value.cells] at hcs
    obtain ⟨rfl, rfl, rfl⟩ := hcs
    exact ⟨[], rfl, ⟨fun i m hi => by simp at hi, fun m hm => by cases hm⟩, by omega⟩
  · simp [Value.cells] at hcs
    obtain ⟨rfl, rfl, rfl⟩ := hcs
    simp only [if_true] at hmm
    subst hmm
    have each : ∀ i, i < m → ∃ o : Mp, (W.cell? (a.add (i * 2)) = some (.slice o.A o.cs.length o.ca) ∧ W.cell? (a.add (i * 2 + 1)) = some (.slice o.O o.os.length o.co)) ∧ MS W o := fun i hi => by
      obtain ⟨cs', h1, h2⟩ := hx i hi
      rw [cells_map] at h1
      obtain ⟨_, hlen, hcell⟩ := World.cells?_some h1
      obtain ⟨o, rfl, hms⟩ := open_map_cells h2
      have c0 := hcell 0 (by omega)
      have c1 := hcell 1 (by omega)
      rw [add_add] at c0 c1
      exact ⟨o, ⟨by simpa using c0, by simpa using c1⟩, hms⟩
    have : Inhabited Mp := ⟨nilM⟩
    obtain ⟨q, hq⟩ := choose_lt each
    refine ⟨(List.range len).map q, by simp, ⟨fun i p hp => ?_, fun p hp => ?_⟩, by unfold maxLen at hm; omega⟩
    · have hi : i < len := by
        rcases Nat.lt_or_ge i len with h | h
        · exact h
        · simp [h] at hp
      obtain ⟨b, o, rfl⟩ := lit0_of_cell_ (by simpa using (hq 0 (by omega)).1.1)
      obtain ⟨⟨c0, c1⟩, _⟩ := hq i (by omega)
      rw [Addr.add_lit] at c0 c1
      simp [hi] at hp
      subst hp
      exact ⟨b, o, rfl, cell_lt c0, c0, by rw [Nat.add_assoc]; exact c1⟩
    · obtain ⟨i, hi, rfl⟩ := List.mem_map.1 hp
      exact (hq i (by have := List.mem_range.1 hi; omega)).2
theorem bulk_one (d : DataW H) : 1 ≤ Rows.uptoBulk d := by
  cases d with
  | lit l => cases l <;> simp [Rows.uptoBulk]
  | _ => simp [Rows.uptoBulk]
theorem bulk_len (l : List (DataW H)) : l.length ≤ Rows.uptoBulkAll l := by
  induction l with
  | nil => simp
  | cons x r ih => have := bulk_one x; simp only [Rows.uptoBulkAll, List.length_cons]; omega
/-- a slice that came in is no longer than its reading's bulk -/
theorem bulk_slice {t e : TypeId} (ht : Tryz.prog.underlying t = some (.slice e)) {A : Option Addr} {len cap : Nat} {d : DataW H} {p : List MemPlace} (h : DataW.Trod enc Tryz.prog W 0 (fun _ => true) true t (.slice A len cap) d p) : len ≤ Rows.uptoBulk d := by
  obtain ⟨fuel, hf⟩ := h
  rcases open_slice ht hf with ⟨hcs, hx⟩ | ⟨a, len', cap', m, n, D, Pl, hcs, _, hl, hm, hmm, hx, _⟩
  · simp [Value.cells] at hcs
    omega
  · simp [Value.cells] at hcs
    obtain ⟨rfl, rfl, rfl⟩ := hcs
    injection hx with h1 h2
    rw [h1]
    have := bulk_len ((List.range len).map D)
    simp only [Rows.uptoBulk]
    simp at this
    omega
end
end Go.Proofs.YtpefdonhacmaoaaGreatDoor

set_option linter.unusedVariables false
set_option linter.unusedSimpArgs false
namespace Go.Proofs.YtpefdonhacmaoaaGreatDoor
open Go.RowKit Go.ChangeShapes Go.WideShapes Go.Deep

theorem open_ls {H : Type} {enc : TypeId × Value → H} {W : World} {A : Option Addr} {len cap : Nat} {d : DataW H} {p : List MemPlace} (h : DataW.Trod enc Tryz.prog W 0 (fun _ => true) true 27 (.slice A len cap) d p) :
    ∃ cs : List Cl, len = cs.length ∧ LS W A cs ∧ cs.length ≤ cap ∧ cap ≤ 9223372036854775807 ∧ (A = none → cap = 0) := by
  obtain ⟨fuel, hf⟩ := h
  rcases open_int_rows Tryz.underlying27 Tryz.underlying23 Tryz.underlying3 (by kernel_rfl) (by kernel_rfl) hf with ⟨hcs, _⟩ | ⟨a, l, c, Ar, L, C, Z, hcs, _, hl, hm, _, hr⟩
  · simp [Value.cells] at hcs
    obtain ⟨rfl, rfl, rfl⟩ := hcs
    exact ⟨[], rfl, ⟨VS.nil, by simp⟩, by simp, by simp, fun _ => rfl⟩
  · simp [Value.cells] at hcs
    obtain ⟨rfl, rfl, rfl⟩ := hcs
    refine ⟨(List.range len).map fun r => ⟨Ar r, C r, (Z r).take (L r)⟩, by simp, ⟨fun i v hv => ?_, fun x hx => ?_⟩, by simpa using hl, by unfold maxLen at hm; exact hm, fun e => by cases e⟩
    · have hi : i < len := by
        rcases Nat.lt_or_ge i len with h | h
        · exact h
        · simp [h] at hv
      obtain ⟨h1, h2, h3, h4, _⟩ := hr i (by omega)
      simp [hi, clV] at hv
      obtain ⟨b, o, rfl⟩ := lit_of_cell (hr 0 (by omega)).1
      rw [Addr.add_lit] at h1
      refine ⟨b, o, rfl, cell_lt h1, ?_⟩
      rw [h1, ← hv]
      congr 2
      omega
    · simp at hx
      obtain ⟨r, hlt, rfl⟩ := hx
      obtain ⟨h1, h2, h3, h4, h5, h6, h7⟩ := hr r (by omega)
      refine ⟨fun i z hz => ?_, by simp; omega, by unfold maxLen at h3; exact h3⟩
      simp only at hz ⊢
      rw [List.getElem?_take] at hz
      split at hz
      · have hlt2 : i < (Z r).length := by
          rcases Nat.lt_or_ge i (Z r).length with h | h
          · exact h
          · simp [h] at hz
        cases hA : Ar r with
        | none => have := h6 hA; omega
        | some a' =>
          have hc := (h7 a' hA).2 i (by omega)
          obtain ⟨b, o, rfl⟩ := lit_of_cell ((h7 a' hA).2 0 (by omega))
          rw [Addr.add_lit] at hc
          refine ⟨b, o, rfl, cell_lt hc, ?_⟩
          rw [hc]
          simp [hlt2] at hz
          simp [hlt2, hz]
      · cases hz
end Go.Proofs.YtpefdonhacmaoaaGreatDoor
