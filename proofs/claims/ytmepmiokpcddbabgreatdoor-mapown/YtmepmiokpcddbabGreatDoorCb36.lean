/-
  Slices of ints that came in, opened.
  Partition maps that came in, opened.
  Partition maps that came in, opened, with what the reach says of their lists.
  A slice of pairs that came in, opened (for a seat without roref: Open's twin; the two are never imported together).
  Slices of slices of slices of ints, that came in, opened.
  What the listed package variables give: the table of powers of ten, and strconv.ErrSyntax.
-/
import Derived.Test.YtmepmiokpcddbabGreatDoorCb2
import Derived.ProofKit
import Derived.OpenShut
import Derived.Deep.Matrix
import Derived.SliceStrings
import Derived.SizedLaws
import Derived.Test.YtmepmiokpcddbabGreatDoorCb4
import Derived.Deep.SlicePairs
import Derived.Test.YtmepmiokpcddbabGreatDoorCb30
import Derived.Test.YtmepmiokpcddbabGreatDoorCb27
import Derived.Lib.LaidU8
import Derived.LaidMore
set_option linter.unusedVariables false
set_option linter.unusedSimpArgs false
namespace Go.Proofs.YtmepmiokpcddbabGreatDoor
open Go.RowKit Go.ChangeShapes Go.WideShapes Go.Deep

theorem lit_of_cell {W : World} {a : Addr} {v : Value} (h : W.cell? (a.add 0) = some v) : ∃ b o, a = ⟨b, o, none⟩ := by
  obtain ⟨b, o, sp⟩ := a
  have hsp : sp = none := by simpa [Addr.add] using World.cell?_spot h
  subst hsp
  exact ⟨b, o, rfl⟩
theorem open_is {H : Type} {enc : TypeId × Value → H} {W : World} {A : Option Addr} {len cap : Nat} {d : DataW H} {p : List MemPlace} (h : DataW.Trod enc Tryz.prog W 0 (fun _ => true) true 26 (.slice A len cap) d p) :
    ∃ ys : List Int, len = ys.length ∧ IS W A ys ∧ ys.length ≤ cap ∧ cap ≤ 9223372036854775807 ∧ (A = none → cap = 0) := by
  obtain ⟨fuel, hf⟩ := h
  rcases open_ints Tryz.underlying26 Tryz.underlying3 (by kernel_rfl) hf with ⟨hcs, _⟩ | ⟨x, l, c, zs, hcs, _, hl, hm, hz, _, hcell, hwz⟩
  · simp [Value.cells] at hcs
    obtain ⟨rfl, rfl, rfl⟩ := hcs
    exact ⟨[], rfl, fun i z hz => by simp at hz, by simp, by simp, fun _ => rfl⟩
  · simp [Value.cells] at hcs
    obtain ⟨rfl, rfl, rfl⟩ := hcs
    simp only [if_true] at hz
    refine ⟨zs.take len, by simp; omega, fun i z hi => ?_, by simp; omega, by unfold maxLen at hm; exact hm, fun e => by cases e⟩
    rw [List.getElem?_take] at hi
    split at hi
    · have hlt : i < zs.length := by omega
      have hc := hcell i hlt
      obtain ⟨b, o, rfl⟩ := lit_of_cell (hcell 0 (by omega))
      rw [Addr.add_lit] at hc
      refine ⟨b, o, rfl, cell_lt hc, ?_⟩
      rw [hc]
      simp [hlt] at hi
      simp [hlt, hi]
    · cases hi
end Go.Proofs.YtmepmiokpcddbabGreatDoor

set_option linter.unusedVariables false
set_option linter.unusedSimpArgs false
namespace Go.Proofs.YtmepmiokpcddbabGreatDoor
open Go.RowKit Go.ChangeShapes Go.WideShapes Go.Deep

theorem mapU : ∃ f0 f1, Tryz.prog.underlying 28 = some (.struct #[f0, f1]) ∧ f0.offset = 0 ∧ f1.offset = 1 ∧ f0.type = 25 ∧ f1.type = 26 := ⟨_, _, Tryz.underlying28, rfl, rfl, rfl, rfl⟩
theorem cells_map : Tryz.prog.cellsOf 28 = 2 := by kernel_rfl
theorem cells_strs : Tryz.prog.cellsOf 25 = 1 := by kernel_rfl
theorem cells_ints : Tryz.prog.cellsOf 26 = 1 := by kernel_rfl
section
variable {H : Type} {enc : TypeId × Value → H} {W : World}
theorem open_ss {A : Option Addr} {len cap fuel : Nat} {x : DataW H × List MemPlace} (hf : DataW.trod enc Tryz.prog W 0 (fun _ => true) true fuel 25 [.slice A len cap] = some x) :
    ∃ ys : List ByteArray, len = ys.length ∧ VS W A (ys.map Value.string) ∧ ys.length ≤ cap ∧ cap ≤ maxLen ∧ (A = none → cap = 0) := by
  rcases open_strings Tryz.underlying25 Tryz.underlying9 (by kernel_rfl) hf with ⟨hcs, _⟩ | ⟨a, l, c, ss, hcs, _, hl, hm, hz, _, hcell, _⟩
  · simp at hcs
    obtain ⟨rfl, rfl, rfl⟩ := hcs
    exact ⟨[], rfl, VS.nil, by simp, by simp, fun _ => rfl⟩
  · simp at hcs
    obtain ⟨rfl, rfl, rfl⟩ := hcs
    simp only [if_true] at hz
    refine ⟨ss.take len, by simp; omega, fun i v hi => ?_, by simp; omega, hm, fun e => by cases e⟩
    rw [List.getElem?_map, List.getElem?_take] at hi
    split at hi
    · have hlt : i < ss.length := by omega
      have hc := hcell i hlt
      obtain ⟨b, o, rfl⟩ := lit_of_cell (hcell 0 (by omega))
      rw [Addr.add_lit] at hc
      refine ⟨b, o, rfl, cell_lt hc, ?_⟩
      rw [hc]
      simp [hlt] at hi
      simp [hlt, hi]
    · cases hi
set_option maxRecDepth 100000 in
theorem open_map {v : Value} {base : Nat} {d : DataW H} {p : List MemPlace} (hv : Value.okWide Tryz.prog W .any base 28 v) (h : DataW.Trod enc Tryz.prog W 0 (fun _ => true) true 28 v d p) :
    ∃ m : Mp, v = .agg #[.slice m.A m.cs.length m.ca, .slice m.O m.os.length m.co] ∧ MS W m := by
  obtain ⟨cs, rfl, _⟩ := okWide_struct Tryz.underlying28 hv
  obtain ⟨fuel, hf⟩ := h
  obtain ⟨f0, f1, hu, o0, o1, t0, t1⟩ := mapU
  obtain ⟨xs, k, _, _, hlen, hxl, hff⟩ := DataW.trod_struct hu hf
  rw [cells_map] at hlen
  obtain ⟨v0, v1, rfl⟩ : ∃ v0 v1, cs = #[v0, v1] := by
    obtain ⟨l⟩ := cs
    match l, hlen with
    | [v0, v1], _ => exact ⟨v0, v1, rfl⟩
  match xs, hxl with
  | [y0, y1], _ =>
    have g0 := hff 0 f0 rfl
    have g1 := hff 1 f1 rfl
    rw [o0, t0, cells_strs] at g0
    rw [o1, t1, cells_ints] at g1
    have g0' : DataW.trod enc Tryz.prog W 0 (fun _ => true) true k 25 [v0] = some y0 := g0
    have g1' : DataW.trod enc Tryz.prog W 0 (fun _ => true) true k 26 [v1] = some y1 := g1
    have hs0 : ∃ A len cap, v0 = .slice A len cap := by
      rcases open_slice Tryz.underlying25 g0' with ⟨hcs, _⟩ | ⟨a, len', cap', m, n, D, Pl, hcs, _⟩
      · simp at hcs; exact ⟨_, _, _, hcs⟩
      · simp at hcs; exact ⟨_, _, _, hcs⟩
    have hs1 : ∃ A len cap, v1 = .slice A len cap := by
      rcases open_slice Tryz.underlying26 g1' with ⟨hcs, _⟩ | ⟨a, len', cap', m, n, D, Pl, hcs, _⟩
      · simp at hcs; exact ⟨_, _, _, hcs⟩
      · simp at hcs; exact ⟨_, _, _, hcs⟩
    obtain ⟨A, len, cap, rfl⟩ := hs0
    obtain ⟨O, len1, cap1, rfl⟩ := hs1
    obtain ⟨ys, rfl, h1, h2, h3, h4⟩ := open_ss g0'
    obtain ⟨zs, rfl, k1, k2, k3, k4⟩ := open_is (enc := enc) (d := y1.1) (p := y1.2) ⟨k, g1'⟩
    exact ⟨⟨A, cap, ys, O, cap1, zs⟩, rfl, h1, k1, h2, k2, h3, by unfold maxLen; exact k3, h4, k4⟩
end
end Go.Proofs.YtmepmiokpcddbabGreatDoor

set_option linter.unusedVariables false
set_option linter.unusedSimpArgs false
namespace Go.Proofs.YtmepmiokpcddbabGreatDoor
open Go.RowKit Go.ChangeShapes Go.WideShapes Go.Deep
section
variable {H : Type} {enc : TypeId × Value → H} {W : World}
theorem bytes_str : Tryz.prog.bytesOf 9 = 16 := by kernel_rfl
theorem bytes_int : Tryz.prog.bytesOf 3 = 8 := by kernel_rfl
theorem weigh_ss {A : Option Addr} {len cap fuel : Nat} {x : DataW H × List MemPlace} (hf : DataW.trod enc Tryz.prog W 0 (fun _ => true) true fuel 25 [.slice A len cap] = some x) (hz : ∀ n ∈ x.1.weights Tryz.prog 25, n ≤ reachBytes) : len * 16 ≤ 140737488351232 := by
  rcases open_strings Tryz.underlying25 Tryz.underlying9 (by kernel_rfl) hf with ⟨hcs, _⟩ | ⟨a, l, c, ss, hcs, _, hl, hm, hs, rfl, _⟩
  · simp at hcs
    omega
  · simp at hcs
    obtain ⟨rfl, rfl, rfl⟩ := hcs
    simp only [if_true] at hs
    have h := hz _ (by simp only [DataW.weights, Tryz.underlying25]; exact List.mem_cons_self)
    rw [bytes_str] at h
    have e : (strs (H := H) (ss.take len)).length = len := by simp [strs]; omega
    rw [e] at h
    have hr : reachBytes = 140737488351232 := by decide
    omega
theorem weigh_is {A : Option Addr} {len cap fuel : Nat} {x : DataW H × List MemPlace} (hf : DataW.trod enc Tryz.prog W 0 (fun _ => true) true fuel 26 [.slice A len cap] = some x) (hz : ∀ n ∈ x.1.weights Tryz.prog 26, n ≤ reachBytes) : len * 8 ≤ 140737488351232 := by
  rcases open_ints Tryz.underlying26 Tryz.underlying3 (by kernel_rfl) hf with ⟨hcs, _⟩ | ⟨a, l, c, zs, hcs, _, hl, hm, hs, rfl, _⟩
  · simp at hcs
    omega
  · simp at hcs
    obtain ⟨rfl, rfl, rfl⟩ := hcs
    simp only [if_true] at hs
    have h := hz _ (by simp only [DataW.weights, Tryz.underlying26]; exact List.mem_cons_self)
    rw [bytes_int] at h
    have e : (lits (H := H) .i64 (zs.take len)).length = len := by simp [lits]; omega
    rw [e] at h
    have hr : reachBytes = 140737488351232 := by decide
    omega
set_option maxRecDepth 100000 in
theorem weigh_map {m : Mp} {d : DataW H} {p : List MemPlace} (h : DataW.Trod enc Tryz.prog W 0 (fun _ => true) true 28 (.agg #[.slice m.A m.cs.length m.ca, .slice m.O m.os.length m.co]) d p) (hz : ∀ n ∈ d.weights Tryz.prog 28, n ≤ reachBytes) :
    m.cs.length * 16 ≤ 140737488351232 ∧ m.os.length * 8 ≤ 140737488351232 := by
  obtain ⟨fuel, hf⟩ := h
  have hu := Tryz.underlying28
  obtain ⟨xs, k, _, hx, hlen, hxl, hff⟩ := DataW.trod_struct hu hf
  match xs, hxl with
  | [y0, y1], _ =>
    have g0 := hff 0 _ rfl
    have g1 := hff 1 _ rfl
    have g0' : DataW.trod enc Tryz.prog W 0 (fun _ => true) true k 25 [.slice m.A m.cs.length m.ca] = some y0 := g0
    have g1' : DataW.trod enc Tryz.prog W 0 (fun _ => true) true k 26 [.slice m.O m.os.length m.co] = some y1 := g1
    have hd : d = .agg [y0.1, y1.1] := by
      injection hx with h1 _
    subst hd
    refine ⟨weigh_ss g0' fun n hn => hz n ?_, weigh_is g1' fun n hn => hz n ?_⟩
    · simp only [DataW.weights, hu, List.map_cons, List.map_nil, DataW.weightsEach, List.mem_append]
      exact .inl hn
    · simp only [DataW.weights, hu, List.map_cons, List.map_nil, DataW.weightsEach, List.mem_append]
      exact .inr (.inl hn)
end
end Go.Proofs.YtmepmiokpcddbabGreatDoor

set_option linter.unusedVariables false
set_option linter.unusedSimpArgs false
namespace Go.Proofs.YtmepmiokpcddbabGreatDoor
open Go.RowKit Go.ChangeShapes Go.WideShapes Go.Deep

/-- pairs that can be read: their keys and values are Go's -/
def Rd (l : List Pr) : Prop := ∀ p ∈ l, p.1.size ≤ maxLen ∧ (Lit.int .i64 p.2).wf = true
def strOf : Value → ByteArray | .string s => s | _ => ByteArray.empty
theorem pairU : ∃ f0 f1, Tryz.prog.underlying 65 = some (.struct #[f0, f1]) ∧ f0.offset = 0 ∧ f1.offset = 1 ∧ f0.type = 9 ∧ f1.type = 3 := ⟨_, _, Tryz.underlying65, rfl, rfl, rfl, rfl⟩
theorem open_pairs {H : Type} {enc : TypeId × Value → H} {W : World} {A : Option Addr} {len cap : Nat} {d : DataW H} {p : List MemPlace} (h : DataW.Trod enc Tryz.prog W 0 (fun _ => true) true 58 (.slice A len cap) d p) :
    ∃ l : List Pr, l.length = len ∧ SV W A cap l ∧ Rd l ∧ (d = .nil ∧ len = 0 ∨ ∃ es sp, d = .slice es sp ∧ es.length = len) := by
  obtain ⟨fuel, hf⟩ := h
  obtain ⟨f0, f1, hu, o0, o1, t0, t1⟩ := pairU
  rcases open_slice_pairs Tryz.underlying58 hu (by kernel_rfl) o0 o1 (by rw [t0]; kernel_rfl) (by rw [t1]; kernel_rfl) hf with ⟨hcs, hx⟩ | ⟨a, len', cap', m, n, V0, V1, D0, D1, P0, P1, hcs, _, hl, hm, hmm, hx, hc⟩
  · simp [Value.cells] at hcs
    obtain ⟨rfl, rfl, rfl⟩ := hcs
    simp only [Prod.mk.injEq] at hx
    exact ⟨[], rfl, SV.nil W, fun p hp => by simp at hp, .inl ⟨hx.1, rfl⟩⟩
  · simp [Value.cells] at hcs
    obtain ⟨rfl, rfl, rfl⟩ := hcs
    simp only [if_true] at hmm
    subst hmm
    simp only [Prod.mk.injEq] at hx
    have hs : ∀ i, i < m → ∃ s n, V0 i = .string s ∧ V1 i = .int .i64 n ∧ s.size ≤ maxLen ∧ (Lit.int .i64 n).wf = true := fun i hi => by
      obtain ⟨_, _, h3, h4⟩ := hc i hi
      rw [t0] at h3
      rw [t1] at h4
      obtain ⟨s, e1, _, e2⟩ := DataW.trod_string Tryz.underlying9 h3
      obtain ⟨z, e3, _, e4⟩ := DataW.trod_int Tryz.underlying3 h4
      exact ⟨s, z, by simpa using e1, by simpa using e3, e2, e4⟩
    have hlit : ∀ i, i < m → ∃ b o, a = ⟨b, o, none⟩ := fun i hi => by
      have h0 := (hc 0 (by omega)).1
      obtain ⟨b, o, sp⟩ := a
      have hsp : sp = none := by simpa [Addr.add] using World.cell?_spot h0
      subst hsp
      exact ⟨b, o, rfl⟩
    refine ⟨(List.range len).map fun i => (strOf (V0 i), intOf (V1 i)), by simp, ⟨fun i q hq => ?_, by simpa using hl, hm, (fun e => by cases e), fun h0 x hx => ?_⟩, fun q hq => ?_, .inr ⟨_, _, hx.1, by simp⟩⟩
    · have hi : i < len := by
        rcases Nat.lt_or_ge i len with h | h
        · exact h
        · simp [h] at hq
      obtain ⟨b, o, rfl⟩ := hlit i (by omega)
      obtain ⟨s, z, e1, e2, _, _⟩ := hs i (by omega)
      obtain ⟨c1, c2, _, _⟩ := hc i (by omega)
      simp [hi, e1, e2, strOf, intOf] at hq
      subst hq
      rw [Addr.add_lit, e1] at c1
      rw [Addr.add_lit, e2, ← Nat.add_assoc] at c2
      exact ⟨b, o, rfl, cell_lt c1, c1, c2⟩
    · injection hx with hx
      obtain ⟨b, o, rfl⟩ := hlit 0 h0
      exact ⟨b, o, hx.symm⟩
    · simp at hq
      obtain ⟨i, hi, rfl⟩ := hq
      obtain ⟨s, z, e1, e2, e3, e4⟩ := hs i (by omega)
      simp [e1, e2, strOf, intOf]
      exact ⟨e3, e4⟩
theorem pair_bytes : Tryz.prog.bytesOf 65 = 24 := by kernel_rfl
theorem reach : reachBytes = 140737488351232 := by decide
end Go.Proofs.YtmepmiokpcddbabGreatDoor

set_option linter.unusedVariables false
set_option linter.unusedSimpArgs false
namespace Go.Proofs.YtmepmiokpcddbabGreatDoor
open Go.RowKit Go.ChangeShapes Go.WideShapes Go.Deep

theorem open_ls {H : Type} {enc : TypeId × Value → H} {W : World} {A : Option Addr} {len cap : Nat} {d : DataW H} {p : List MemPlace} (h : DataW.Trod enc Tryz.prog W 0 (fun _ => true) true 59 (.slice A len cap) d p) :
    ∃ cs : List Cl, len = cs.length ∧ LS W A cs ∧ cs.length ≤ cap ∧ cap ≤ 9223372036854775807 ∧ (A = none → cap = 0) := by
  obtain ⟨fuel, hf⟩ := h
  rcases open_int_rows Tryz.underlying59 Tryz.underlying26 Tryz.underlying3 (by kernel_rfl) (by kernel_rfl) hf with ⟨hcs, _⟩ | ⟨a, l, c, Ar, L, C, Z, hcs, _, hl, hm, _, hr⟩
  · simp [Value.cells] at hcs
    obtain ⟨rfl, rfl, rfl⟩ := hcs
    exact ⟨[], rfl, ⟨VS.nil, by simp⟩, by simp, by simp, fun _ => rfl⟩
  · simp [Value.cells] at hcs
    obtain ⟨rfl, rfl, rfl⟩ := hcs
    refine ⟨(List.range len).map fun r => ⟨Ar r, C r, (Z r).take (L r)⟩, by simp, ⟨fun i v hv => ?_, fun x hx => ?_⟩, by simpa using hl, by unfold maxLen at hm; exact hm, fun e => by cases e⟩
    · have hi : i < len := by
        rcases Nat.lt_or_ge i len with h | h
        · exact h
        · simp [h] at hv
      obtain ⟨h1, h2, h3, h4, _⟩ := hr i (by omega)
      simp [hi, clV] at hv
      obtain ⟨b, o, rfl⟩ := lit_of_cell (hr 0 (by omega)).1
      rw [Addr.add_lit] at h1
      refine ⟨b, o, rfl, cell_lt h1, ?_⟩
      rw [h1, ← hv]
      congr 2
      omega
    · simp at hx
      obtain ⟨r, hlt, rfl⟩ := hx
      obtain ⟨h1, h2, h3, h4, h5, h6, h7⟩ := hr r (by omega)
      refine ⟨fun i z hz => ?_, by simp; omega, by unfold maxLen at h3; exact h3⟩
      simp only at hz ⊢
      rw [List.getElem?_take] at hz
      split at hz
      · have hlt2 : i < (Z r).length := by
          rcases Nat.lt_or_ge i (Z r).length with h | h
          · exact h
          · simp [h] at hz
        cases hA : Ar r with
        | none => have := h6 hA; omega
        | some a' =>
          have hc := (h7 a' hA).2 i (by omega)
          obtain ⟨b, o, rfl⟩ := lit_of_cell ((h7 a' hA).2 0 (by omega))
          rw [Addr.add_lit] at hc
          refine ⟨b, o, rfl, cell_lt hc, ?_⟩
          rw [hc]
          simp [hlt2] at hz
          simp [hlt2, hz]
      · cases hz
end Go.Proofs.YtmepmiokpcddbabGreatDoor

set_option linter.unusedVariables false
set_option linter.unusedSimpArgs false
namespace Go.Proofs.YtmepmiokpcddbabGreatDoor
open Go.RowKit Go.Lib

theorem tab_of_reads {W : World} (h : VarReads Tryz.prog W "internal/strconv.uint64pow10" (tabData .u64 pow10Tab)) : TabIs Tryz.prog W "internal/strconv.uint64pow10" .u64 pow10Tab := by
  obtain ⟨g, t, cs, fuel, p, h1, h2, h3, h4⟩ := h
  have hg : Tryz.prog.globalNamed "internal/strconv.uint64pow10" = some ((Tryz.prog.globalNamed "internal/strconv.uint64pow10").getD 0) := by kernel_rfl
  obtain rfl := Option.some.inj (hg.symm.trans h1)
  have ht : (Tryz.prog.globals[(Tryz.prog.globalNamed "internal/strconv.uint64pow10").getD 0]?).map (·.type) = some 237 := by kernel_rfl
  obtain rfl := Option.some.inj (ht.symm.trans h2)
  unfold TabIs
  rw [h3, ← cells_of_tab (n := 20) (e := 134) (by kernel_rfl) (by kernel_rfl) (by kernel_rfl) (by kernel_rfl) h4]
set_option maxRecDepth 100000 in
theorem err_of_reads {W : World} {d : DataW Unit} (h : VarReads Tryz.prog W "strconv.ErrSyntax" d) : ∃ ev, W.cell? ⟨Tryz.atoiL_ren.g 15, 0, none⟩ = some ev ∧ (ev = .nilIface ∨ ∃ te pe, ev = .iface te pe) := by
  obtain ⟨g, t, cs, fuel, p, h1, h2, h3, h4⟩ := h
  have hg : Tryz.prog.globalNamed "strconv.ErrSyntax" = some (Tryz.atoiL_ren.g 15) := by kernel_rfl
  obtain rfl := Option.some.inj (hg.symm.trans h1)
  have ht : (Tryz.prog.globals[Tryz.atoiL_ren.g 15]?).map (·.type) = some 157 := by kernel_rfl
  obtain rfl := Option.some.inj (ht.symm.trans h2)
  obtain ⟨q, hu⟩ : ∃ q, Tryz.prog.underlying 157 = some (.interface q) := ⟨_, Tryz.underlying157⟩
  have hc := World.var?_cell hg h3 0
  cases fuel with
  | zero => simp [DataW.trod] at h4
  | succ fuel =>
    obtain ⟨l⟩ := cs
    rcases l with _ | ⟨x, _ | ⟨y, r⟩⟩
    · simp [DataW.trod, hu] at h4
    · cases x with
      | nilIface => exact ⟨_, hc, .inl rfl⟩
      | iface u v => exact ⟨_, hc, .inr ⟨_, _, rfl⟩⟩
      | _ => simp [DataW.trod, hu] at h4
    · simp [DataW.trod, hu] at h4
theorem gl_of {W : World} {l : List (String × DataW Unit)} {d : DataW Unit} (h : laidMet Tryz.prog l W) (h1 : ("internal/strconv.uint64pow10", tabData .u64 pow10Tab) ∈ l) (h2 : ("strconv.ErrSyntax", d) ∈ l) : Gl W :=
  ⟨tab_of_reads (laidMet.reads h h1), err_of_reads (laidMet.reads h h2)⟩
end Go.Proofs.YtmepmiokpcddbabGreatDoor
