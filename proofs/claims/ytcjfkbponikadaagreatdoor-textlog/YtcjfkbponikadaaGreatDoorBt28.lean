/-
  What the listed package variables give: the table of powers of ten, and strconv.ErrSyntax.
-/
import Derived.Test.YtcjfkbponikadaaGreatDoorBt4
import Derived.Lib.LaidU8
import Derived.LaidMore
set_option linter.unusedVariables false
set_option linter.unusedSimpArgs false
namespace Go.Proofs.YtcjfkbponikadaaGreatDoor
open Go.RowKit Go.Lib

theorem tab_of_reads {W : World} (h : VarReads Tryz.prog W "internal/strconv.uint64pow10" (tabData .u64 pow10Tab)) : TabIs Tryz.prog W "internal/strconv.uint64pow10" .u64 pow10Tab := by
  obtain ⟨g, t, cs, fuel, p, h1, h2, h3, h4⟩ := h
  have hg : Tryz.prog.globalNamed "internal/strconv.uint64pow10" = some ((Tryz.prog.globalNamed "internal/strconv.uint64pow10").getD 0) := by kernel_rfl
  obtain rfl := Option.some.inj (hg.symm.trans h1)
  have ht : (Tryz.prog.globals[(Tryz.prog.globalNamed "internal/strconv.uint64pow10").getD 0]?).map (·.type) = some 239 := by kernel_rfl
  obtain rfl := Option.some.inj (ht.symm.trans h2)
  unfold TabIs
  rw [h3, ← cells_of_tab (n := 20) (e := 131) (by kernel_rfl) (by kernel_rfl) (by kernel_rfl) (by kernel_rfl) h4]
set_option maxRecDepth 100000 in
theorem err_of_reads {W : World} {d : DataW Unit} (h : VarReads Tryz.prog W "strconv.ErrSyntax" d) : ∃ ev, W.cell? ⟨Tryz.atoiL_ren.g 15, 0, none⟩ = some ev ∧ (ev = .nilIface ∨ ∃ te pe, ev = .iface te pe) := by
  obtain ⟨g, t, cs, fuel, p, h1, h2, h3, h4⟩ := h
  have hg : Tryz.prog.globalNamed "strconv.ErrSyntax" = some (Tryz.atoiL_ren.g 15) := by kernel_rfl
  obtain rfl := Option.some.inj (hg.symm.trans h1)
  have ht : (Tryz.prog.globals[Tryz.atoiL_ren.g 15]?).map (·.type) = some 159 := by kernel_rfl
  obtain rfl := Option.some.inj (ht.symm.trans h2)
  obtain ⟨q, hu⟩ : ∃ q, Tryz.prog.underlying 159 = some (.interface q) := ⟨_, Tryz.underlying159⟩
  have hc := World.var?_cell hg h3 0
  cases fuel with
  | zero => simp [DataW.trod] at h4
  | succ fuel =>
    obtain ⟨l⟩ := cs
    rcases l with _ | ⟨x, _ | ⟨y, r⟩⟩
    · simp [DataW.trod, hu] at h4
    · cases x with
      | nilIface => exact ⟨_, hc, .inl rfl⟩
      | iface u v => exact ⟨_, hc, .inr ⟨_, _, rfl⟩⟩
      | _ => simp [DataW.trod, hu] at h4
    · simp [DataW.trod, hu] at h4
theorem gl_of {W : World} {l : List (String × DataW Unit)} {d : DataW Unit} (h : laidMet Tryz.prog l W) (h1 : ("internal/strconv.uint64pow10", tabData .u64 pow10Tab) ∈ l) (h2 : ("strconv.ErrSyntax", d) ∈ l) : Gl W :=
  ⟨tab_of_reads (laidMet.reads h h1), err_of_reads (laidMet.reads h h2)⟩
end Go.Proofs.YtcjfkbponikadaaGreatDoor
