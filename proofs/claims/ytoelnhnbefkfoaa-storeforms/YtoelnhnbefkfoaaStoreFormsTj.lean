/-
  Transactions plainly, rows of one-cell values that are written (no body of the program in it).
  What rokeep.Deeds makes, as valid transactions (no body of the program in it).
  Slices of ints, and slices of slices of ints, that came in, opened.
  rokeep.storeBegun and storeKept.
  The walk of StoreForms.
-/
import Derived.Test.YtoelnhnbefkfoaaDDs
import Derived.Test.YtoelnhnbefkfoaaORSet
import Derived.Test.YtoelnhnbefkfoaaRDeeds
import Derived.ProofKit
import Derived.OpenShut
import Derived.Deep.Matrix
import Derived.Test.YtoelnhnbefkfoaaPutSt
import Derived.Test.YtoelnhnbefkfoaaShLaw
import Derived.Test.YtoelnhnbefkfoaaShPartW
import Derived.Test.YtoelnhnbefkfoaaPairs
import Derived.Test.YtoelnhnbefkfoaaDSer
set_option linter.unusedVariables false
set_option linter.unusedSimpArgs false
namespace Go.Proofs.Ytoelnhnbefkfoaa
open Go.RowKit

/-- the transactions of a list, plainly -/
def ddOf (ds : List Dl) : List (List Opr) := ds.map (·.d)
theorem ddOf_len (ds : List Dl) : (ddOf ds).length = ds.length := by simp [ddOf]
theorem ddOf_get {ds : List Dl} {i : Nat} (h : i < ds.length) : (ddOf ds).getD i [] = ds[i].d := by simp [ddOf, List.getD_eq_getElem?_getD, h]
theorem ddOf_take {ds : List Dl} {k : Nat} (h : k < ds.length) : ddOf (ds.take (k + 1)) = ddOf (ds.take k) ++ [ds[k].d] := by
  unfold ddOf; rw [List.take_succ_eq_append_getElem h, List.map_append]; rfl
theorem getD_set_ (gl : List Bool) {k : Nat} (hk : k < gl.length) (v : Bool) (i : Nat) : (gl.set k v).getD i false = if i = k then v else gl.getD i false := by
  rw [List.getD_eq_getElem?_getD, List.getElem?_set]
  by_cases e : k = i
  · subst e; simp [hk]
  · rw [if_neg e, if_neg fun e' => e e'.symm, List.getD_eq_getElem?_getD]
end Go.Proofs.Ytoelnhnbefkfoaa

set_option linter.unusedVariables false
set_option linter.unusedSimpArgs false
namespace Go.Proofs.Ytoelnhnbefkfoaa
open Go.RowKit

theorem Dds.ds {w : World} {B : Nat} {A : Option Addr} {c : Nat} {ds : List Dl} (h : Dds w B A c ds) : DS w A ds := ⟨h.or.vs, fun x hx => (h.oo x hx).os⟩
theorem Dds.chk {w : World} {B : Nat} {A : Option Addr} {c : Nat} {ds : List Dl} (h : Dds w B A c ds) : ∀ x ∈ ds, chkD x.d = 0 := fun x hx => by
  obtain ⟨h1, h2, h3⟩ := h.good x hx
  exact chkD_zero.2 ⟨h2, by omega, fun o ho => (h1 o ho).chk⟩
end Go.Proofs.Ytoelnhnbefkfoaa

set_option linter.unusedVariables false
set_option linter.unusedSimpArgs false
namespace Go.Proofs.Ytoelnhnbefkfoaa
open Go.RowKit Go.ChangeShapes Go.WideShapes Go.Deep

theorem lit_of_cell {W : World} {a : Addr} {v : Value} (h : W.cell? (a.add 0) = some v) : ∃ b o, a = ⟨b, o, none⟩ := by
  obtain ⟨b, o, sp⟩ := a
  have hsp : sp = none := by simpa [Addr.add] using World.cell?_spot h
  subst hsp
  exact ⟨b, o, rfl⟩
theorem open_is {H : Type} {enc : TypeId × Value → H} {W : World} {A : Option Addr} {len cap : Nat} {d : DataW H} {p : List MemPlace} (h : DataW.Trod enc Try.prog W 0 (fun _ => true) true 22 (.slice A len cap) d p) :
    ∃ ys : List Int, len = ys.length ∧ IS W A ys ∧ ys.length ≤ cap ∧ cap ≤ 9223372036854775807 ∧ (A = none → cap = 0) := by
  obtain ⟨fuel, hf⟩ := h
  rcases open_ints Try.underlying22 Try.underlying3 (by kernel_rfl) hf with ⟨hcs, _⟩ | ⟨x, l, c, zs, hcs, _, hl, hm, hz, _, hcell, hwz⟩
  · simp [Value.cells] at hcs
    obtain ⟨rfl, rfl, rfl⟩ := hcs
    exact ⟨[], rfl, fun i z hz => by simp at hz, by simp, by simp, fun _ => rfl⟩
  · simp [Value.cells] at hcs
    obtain ⟨rfl, rfl, rfl⟩ := hcs
    simp only [if_true] at hz
    refine ⟨zs.take len, by simp; omega, fun i z hi => ?_, by simp; omega, by unfold maxLen at hm; exact hm, fun e => by cases e⟩
    rw [List.getElem?_take] at hi
    split at hi
    · have hlt : i < zs.length := by omega
      have hc := hcell i hlt
      obtain ⟨b, o, rfl⟩ := lit_of_cell (hcell 0 (by omega))
      rw [Addr.add_lit] at hc
      refine ⟨b, o, rfl, cell_lt hc, ?_⟩
      rw [hc]
      simp [hlt] at hi
      simp [hlt, hi]
    · cases hi
theorem open_ls {H : Type} {enc : TypeId × Value → H} {W : World} {A : Option Addr} {len cap : Nat} {d : DataW H} {p : List MemPlace} (h : DataW.Trod enc Try.prog W 0 (fun _ => true) true 54 (.slice A len cap) d p) :
    ∃ cs : List Cl, len = cs.length ∧ LS W A cs ∧ cs.length ≤ cap ∧ cap ≤ 9223372036854775807 ∧ (A = none → cap = 0) := by
  obtain ⟨fuel, hf⟩ := h
  rcases open_int_rows Try.underlying54 Try.underlying22 Try.underlying3 (by kernel_rfl) (by kernel_rfl) hf with ⟨hcs, _⟩ | ⟨a, l, c, Ar, L, C, Z, hcs, _, hl, hm, _, hr⟩
  · simp [Value.cells] at hcs
    obtain ⟨rfl, rfl, rfl⟩ := hcs
    exact ⟨[], rfl, ⟨VS.nil, by simp⟩, by simp, by simp, fun _ => rfl⟩
  · simp [Value.cells] at hcs
    obtain ⟨rfl, rfl, rfl⟩ := hcs
    refine ⟨(List.range len).map fun r => ⟨Ar r, C r, (Z r).take (L r)⟩, by simp, ⟨fun i v hv => ?_, fun x hx => ?_⟩, by simpa using hl, by unfold maxLen at hm; exact hm, fun e => by cases e⟩
    · have hi : i < len := by
        rcases Nat.lt_or_ge i len with h | h
        · exact h
        · simp [h] at hv
      obtain ⟨h1, h2, h3, h4, _⟩ := hr i (by omega)
      simp [hi, clV] at hv
      obtain ⟨b, o, rfl⟩ := lit_of_cell (hr 0 (by omega)).1
      rw [Addr.add_lit] at h1
      refine ⟨b, o, rfl, cell_lt h1, ?_⟩
      rw [h1, ← hv]
      congr 2
      omega
    · simp at hx
      obtain ⟨r, hlt, rfl⟩ := hx
      obtain ⟨h1, h2, h3, h4, h5, h6, h7⟩ := hr r (by omega)
      refine ⟨fun i z hz => ?_, by simp; omega, by unfold maxLen at h3; exact h3⟩
      simp only at hz ⊢
      rw [List.getElem?_take] at hz
      split at hz
      · have hlt2 : i < (Z r).length := by
          rcases Nat.lt_or_ge i (Z r).length with h | h
          · exact h
          · simp [h] at hz
        cases hA : Ar r with
        | none => have := h6 hA; omega
        | some a' =>
          have hc := (h7 a' hA).2 i (by omega)
          obtain ⟨b, o, rfl⟩ := lit_of_cell ((h7 a' hA).2 0 (by omega))
          rw [Addr.add_lit] at hc
          refine ⟨b, o, rfl, cell_lt hc, ?_⟩
          rw [hc]
          simp [hlt2] at hz
          simp [hlt2, hz]
      · cases hz
end Go.Proofs.Ytoelnhnbefkfoaa

set_option linter.unusedVariables false
set_option linter.unusedSimpArgs false
namespace Go.Proofs.Ytoelnhnbefkfoaa
open Go.RowKit

set_option maxHeartbeats 400000 in
set_option maxRecDepth 100000 in
theorem stbegun_any (w : World) : Calls Try.prog 25 #[] w fun e w' => e = .returned (.bool true) ∧ Below w.heap.size w w' := by
  have hok : Ok [((⟨#[97]⟩ : ByteArray), (5 : Int))] := chk_ok.1 (by decide +kernel)
  have HL := hideP (fun l' (h1 : Ok l') (h2 : valOf l' = upd (valOf []) ⟨#[97]⟩ 5) => show l'.length = 1 from by
    rw [h1.ext hok fun k => by
      rw [h2]
      by_cases e : k = ⟨#[97]⟩
      · subst e; rw [upd_same, valOf_mem (p := ((⟨#[97]⟩ : ByteArray), (5 : Int))) hok.srt (by simp)]
      · rw [upd_other _ _ e, valOf_none (by simp), valOf_none (fun p hp h => e (by simp at hp; subst hp; exact h.symm))]]
    rfl)
  clear hok
  have HP := hideP (put_st none 0 [] ⟨#[97]⟩ 5 w (SV.nil w) Ok.nil (by decide +kernel) (by decide))
  go_enter Try.func25, Try.ntmps25
  go_wp2_with fail
  refine HP.out.mono ?_
  rintro e w1 ⟨A, c, l', rfl, _, hok, hv, hb, _⟩
  rw [HL.out l' hok hv]
  clear HP HL hv
  go_wp2_with fail
  go_ret
  exact ⟨rfl, hb⟩
end Go.Proofs.Ytoelnhnbefkfoaa

set_option linter.unusedVariables false
set_option linter.unusedSimpArgs false
namespace Go.Proofs.Ytoelnhnbefkfoaa
open Go.RowKit

set_option maxHeartbeats 400000 in
set_option maxRecDepth 100000 in
theorem stkept_any (A : Option Addr) (c : Nat) (l : List Pr) (w : World) (hA : SV w A c l) (hok : Ok l) : Calls Try.prog 29 #[.slice A l.length c] w fun e w' => e = .returned (.bool true) ∧ Below w.heap.size w w' := by
  have hsm := hok.small
  have HC := hideP (check_any A c l w hA.ps (by omega))
  rw [chk_ok.2 hok] at HC
  go_enter Try.func29, Try.ntmps29
  go_wp2_with fail
  refine HC.out.mono ?_
  rintro e w1 ⟨rfl, hb⟩
  clear HC
  go_wp2_with fail
  go_ret
  exact ⟨rfl, hb⟩

set_option maxHeartbeats 4000000 in
set_option maxRecDepth 100000 in
theorem forms_walk (P T D : Option Addr) (cp ct cd : Nat) (zs ts : List Int) (cs : List Cl) (k n : Int) (w : World) (hP : IS w P zs) (hl : zs.length ≤ cp) (hc : cp ≤ 9223372036854775807) (hn : P = none → cp = 0)
    (hT : IS w T ts) (hlt : ts.length ≤ ct) (hct : ct ≤ 9223372036854775807) (hnt : T = none → ct = 0)
    (hD : LS w D cs) (hDl : cs.length ≤ cd) (hDc : cd ≤ 9223372036854775807) (hDn : D = none → cd = 0) :
    Calls Try.prog 7 #[.slice P zs.length cp, .slice T ts.length ct, .slice D cs.length cd, .int .i64 k, .int .i64 n] w fun e w' => e = .returned (.bool true) ∧ Below w.heap.size w w' := by
  go_enter Try.func7, Try.ntmps7
  go_wp2_with fail
  refine (stbegun_any _).mono ?_
  rintro e w1 ⟨rfl, hb1⟩
  replace hP := hP.below hb1
  replace hT := hT.below hb1
  replace hD := hD.below hb1
  go_wp2_with fail
  refine (pairs_any P cp zs _ hP hl hc hn).mono ?_
  rintro e w2 ⟨As, cs', s, rfl, hs, hsm, hb2⟩
  have hb := hb1.trans (hb2.mono hb1.size)
  replace hT := hT.below hb2
  replace hD := hD.below hb2
  have hok := hsm.ok
  clear hb1 hb2 hP hsm hn
  go_wp2_with fail
  refine (rkey_be k _).mono ?_
  rintro e w3 ⟨rfl, hb3⟩
  have hkN := keyN_ok (wi_lt k 8 (by omega))
  generalize keyN (wi k 8) = key at hkN ⊢
  replace hb := hb.trans (hb3.mono hb.size)
  replace hs := hs.below hb3
  replace hT := hT.below hb3
  replace hD := hD.below hb3
  clear hb3
  go_wp2_with fail
  refine (within_any n 9 (by omega) (by omega) _).mono ?_
  rintro e w4 ⟨rfl, rfl⟩
  have h9 := wi_lt n 9 (by omega)
  generalize wi n 9 = x9 at h9 ⊢
  have p9 : IntKind.i64.wrap ((x9 : Int) - 4) = (x9 : Int) - 4 := by simp only [IntKind.wrap_i64]; omega
  go_wp2_with fail
  refine (put_st As cs' s key ((x9 : Int) - 4) _ hs hok hkN (by simp [valB]; omega)).mono ?_
  rintro e w5 ⟨Ax, cx, lx, rfl, hx, hokx, _, hb5, _⟩
  replace hb := hb.trans (hb5.mono hb.size)
  replace hs := hs.below hb5
  replace hT := hT.below hb5
  replace hD := hD.below hb5
  clear hb5
  go_wp2_with fail
  refine (kmap_mk T ct ts _ hT (by omega)).mono ?_
  rintro e w6 ⟨m, rfl, hokm, h6, hmo, hb6⟩
  replace hb := hb.trans (hb6.mono hb.size)
  replace hs := hs.below hb6
  replace hx := hx.below hb6
  replace hD := hD.below hb6
  have hms := hmo.ms
  clear hb6 hT hmo
  go_wp2_with fail
  refine (within_any n 4 (by omega) (by omega) _).mono ?_
  rintro e w7 ⟨rfl, rfl⟩
  have h4 := wi_lt n 4 (by omega)
  generalize wi n 4 = x4 at h4 ⊢
  have hob : ownB (x4 : Int) = true := ownB_iff.2 (by omega)
  have hsl := hok.small
  have HPT := hideP (shpart_any m As cs' s (x4 : Int) w6 hms hs.ps hokm.l2 (by omega))
  rw [partV_ok (chkM_ok.2 hokm) (chk_ok.2 hok) hob] at HPT
  have hoky := ptL_ok (cs := m.cs) (os := m.os) hok (x4 : Int)
  clear hob
  go_wp2_with fail
  refine HPT.out.mono ?_
  rintro e w8 ⟨Ay, cy, rfl, hov, hb8⟩
  simp only at hov ⊢
  have hy := hov.sv
  replace hb := hb.trans (hb8.mono hb.size)
  replace hs := hs.below hb8
  replace hx := hx.below hb8
  replace hD := hD.below hb8
  clear hb8 hov HPT
  generalize ptL m.cs m.os (x4 : Int) s = ly at hoky hy ⊢
  go_wp2_with fail
  refine (deeds_any D cd 10 cs _ hD hDl hDc hDn (by omega)).mono ?_
  rintro e w9 ⟨Ad, cdd, ds, rfl, hdd, hdl, hb9⟩
  replace hb := hb.trans (hb9.mono hb.size)
  replace hs := hs.below hb9
  replace hx := hx.below hb9
  replace hy := hy.below hb9
  have hDS := hdd.ds
  have hchk : chkDs (ds.map (·.d)) = 0 := chkDs_zero.2 fun d hd => by
    obtain ⟨y, hy, rfl⟩ := List.mem_map.1 hd
    exact hdd.chk y hy
  clear hb9 hD hdd
  go_wp2_with fail
  refine (serial_any As Ad cs' cdd s ds _ hs hok hDS (by omega)).mono ?_
  rintro e w10 (⟨_, Az, cz, lz, A2, c2, rfl, hz, hokz, _, _, hb10⟩ | ⟨hne, _⟩)
  · have hz' := hz.sv
    replace hb := hb.trans (hb10.mono hb.size)
    replace hx := hx.below hb10
    replace hy := hy.below hb10
    clear hb10 hs hz hDS hchk
    go_wp2_with fail
    refine (stkept_any Ax cx lx _ hx hokx).mono ?_
    rintro e w11 ⟨rfl, hb11⟩
    replace hb := hb.trans (hb11.mono hb.size)
    replace hy := hy.below hb11
    replace hz' := hz'.below hb11
    clear hb11 hx
    go_wp2_with fail
    refine (stkept_any Ay cy ly _ hy hoky).mono ?_
    rintro e w12 ⟨rfl, hb12⟩
    replace hb := hb.trans (hb12.mono hb.size)
    replace hz' := hz'.below hb12
    clear hb12 hy
    go_wp2_with fail
    refine (stkept_any Az cz lz _ hz' hokz).mono ?_
    rintro e w13 ⟨rfl, hb13⟩
    replace hb := hb.trans (hb13.mono hb.size)
    go_wp2_with fail
    go_ret
    exact ⟨rfl, hb⟩
  · exact absurd hchk hne
end Go.Proofs.Ytoelnhnbefkfoaa
