/-
  Entries that came in, opened.
-/
import Derived.Test.YtkdcdnefmcfpnaaGreatDoorTxEntW
import Derived.Test.YtkdcdnefmcfpnaaGreatDoorOpenM
import Derived.Test.YtkdcdnefmcfpnaaGreatDoorOpenDu
set_option linter.unusedVariables false
set_option linter.unusedSimpArgs false
namespace Go.Proofs.YtkdcdnefmcfpnaaGreatDoor
open Go.RowKit Go.ChangeShapes Go.WideShapes Go.Deep

theorem entU : ∃ f0 f1 f2, Tryz.prog.underlying 45 = some (.struct #[f0, f1, f2]) ∧ f0.offset = 0 ∧ f1.offset = 1 ∧ f2.offset = 2 ∧ f0.type = 24 ∧ f1.type = 4 ∧ f2.type = 28 := ⟨_, _, _, Tryz.underlying45, rfl, rfl, rfl, rfl, rfl, rfl⟩
theorem cells_ent : Tryz.prog.cellsOf 45 = 4 := by kernel_rfl
theorem cells_boolu : Tryz.prog.cellsOf 4 = 1 := by kernel_rfl
section
variable {H : Type} {enc : TypeId × Value → H} {W : World}
set_option maxRecDepth 100000 in
theorem open_mapc {fuel : Nat} {v0 v1 : Value} {x : DataW H × List MemPlace} (hf : DataW.trod enc Tryz.prog W 0 (fun _ => true) true fuel 28 [v0, v1] = some x) :
    ∃ m : Mp, v0 = .slice m.A m.cs.length m.ca ∧ v1 = .slice m.O m.os.length m.co ∧ MS W m := by
  obtain ⟨f0, f1, hu, o0, o1, t0, t1⟩ := mapU
  obtain ⟨xs, k, _, _, hlen, hxl, hff⟩ := DataW.trod_struct hu hf
  match xs, hxl with
  | [y0, y1], _ =>
    have g0 := hff 0 f0 rfl
    have g1 := hff 1 f1 rfl
    rw [o0, t0, cells_strs] at g0
    rw [o1, t1, cells_ints] at g1
    have g0' : DataW.trod enc Tryz.prog W 0 (fun _ => true) true k 25 [v0] = some y0 := g0
    have g1' : DataW.trod enc Tryz.prog W 0 (fun _ => true) true k 26 [v1] = some y1 := g1
    have hs0 : ∃ A len cap, v0 = .slice A len cap := by
      rcases open_slice Tryz.underlying25 g0' with ⟨hcs, _⟩ | ⟨a, len', cap', m, n, D, Pl, hcs, _⟩
      · simp at hcs; exact ⟨_, _, _, hcs⟩
      · simp at hcs; exact ⟨_, _, _, hcs⟩
    have hs1 : ∃ A len cap, v1 = .slice A len cap := by
      rcases open_slice Tryz.underlying26 g1' with ⟨hcs, _⟩ | ⟨a, len', cap', m, n, D, Pl, hcs, _⟩
      · simp at hcs; exact ⟨_, _, _, hcs⟩
      · simp at hcs; exact ⟨_, _, _, hcs⟩
    obtain ⟨A, len, cap, rfl⟩ := hs0
    obtain ⟨O, len1, cap1, rfl⟩ := hs1
    obtain ⟨ys, rfl, h1, h2, h3, h4⟩ := open_ss g0'
    obtain ⟨zs, rfl, k1, k2, k3, k4⟩ := open_is (enc := enc) (d := y1.1) (p := y1.2) ⟨k, g1'⟩
    exact ⟨⟨A, cap, ys, O, cap1, zs⟩, rfl, rfl, h1, k1, h2, k2, h3, by unfold maxLen; exact k3, h4, k4⟩
set_option maxRecDepth 100000 in
theorem open_entry {v : Value} {base : Nat} {d : DataW H} {p : List MemPlace} (hv : Value.okWide Tryz.prog W .any base 45 v) (h : DataW.Trod enc Tryz.prog W 0 (fun _ => true) true 45 v d p) :
    ∃ x : Em, v = emV x ∧ ES W x := by
  obtain ⟨cs, rfl, _⟩ := okWide_struct Tryz.underlying45 hv
  obtain ⟨fuel, hf⟩ := h
  obtain ⟨f0, f1, f2, hu, o0, o1, o2, t0, t1, t2⟩ := entU
  obtain ⟨xs, k, _, _, hlen, hxl, hff⟩ := DataW.trod_struct hu hf
  rw [cells_ent] at hlen
  obtain ⟨v0, v1, v2, v3, rfl⟩ : ∃ v0 v1 v2 v3, cs = #[v0, v1, v2, v3] := by
    obtain ⟨l⟩ := cs
    match l, hlen with
    | [v0, v1, v2, v3], _ => exact ⟨v0, v1, v2, v3, rfl⟩
  match xs, hxl with
  | [y0, y1, y2], _ =>
    have g0 := hff 0 f0 rfl
    have g1 := hff 1 f1 rfl
    have g2 := hff 2 f2 rfl
    rw [o0, t0, cells_deedu] at g0
    rw [o1, t1, cells_boolu] at g1
    rw [o2, t2, cells_map] at g2
    have g0' : DataW.trod enc Tryz.prog W 0 (fun _ => true) true k 24 [v0] = some y0 := g0
    have g1' : DataW.trod enc Tryz.prog W 0 (fun _ => true) true k 4 [v1] = some y1 := g1
    have g2' : DataW.trod enc Tryz.prog W 0 (fun _ => true) true k 28 [v2, v3] = some y2 := g2
    obtain ⟨y, hy, hos, hbd, _⟩ := open_deed_cellsu g0'
    obtain ⟨b, hb, _⟩ := DataW.trod_bool Tryz.underlying4 g1'
    obtain ⟨m, hm1, hm2, hm3⟩ := open_mapc g2'
    simp at hy hb
    subst hy; subst hb; subst hm1; subst hm2
    exact ⟨⟨y.D, y.c, y.d, b, m⟩, rfl, ⟨hos, hm3, hbd⟩⟩
end
end Go.Proofs.YtkdcdnefmcfpnaaGreatDoor
