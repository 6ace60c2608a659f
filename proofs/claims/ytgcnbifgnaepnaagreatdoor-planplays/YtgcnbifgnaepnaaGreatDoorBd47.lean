/-
  rolaw.PlanPlays: the law answers true.
  A slice of pairs that came in, opened.
-/
import Derived.Test.YtgcnbifgnaepnaaGreatDoorBd35
import Derived.Test.YtgcnbifgnaepnaaGreatDoorBd45
import Derived.Test.YtgcnbifgnaepnaaGreatDoorBd46
import Derived.Test.YtgcnbifgnaepnaaGreatDoorBd39
import Derived.ProofKit
import Derived.OpenShut
import Derived.Deep.SlicePairs
import Derived.SizedLaws
set_option linter.unusedVariables false
set_option linter.unusedSimpArgs false
namespace Go.Proofs.YtgcnbifgnaepnaaGreatDoor
open Go.RowKit Go.WideMaps Go.Maps

/-- what Play hands back, whatever is handed in -/
def PlayRes (w : World) (l : List Pr) (ds : List Dl) (ps : List Int) (e : Ending) (w' : World) : Prop :=
  ∃ A c lx G cg gl O co ol ec, e = .returned (.tuple #[.slice A (lx : List Pr).length c, .slice G (gl : List Bool).length cg, .slice O (ol : List Nat).length co, .int .i64 ec]) ∧ SV w' A c lx ∧ VS w' G (gl.map Value.bool) ∧ VS w' O (nV ol) ∧ Below w.heap.size w w' ∧
    ((chk ByteArray.empty l ≠ 0 ∧ ec = chk ByteArray.empty l ∧ lx = [] ∧ gl = [] ∧ ol = []) ∨ (chk ByteArray.empty l = 0 ∧ chkP (ddOf ds) ≠ 0 ∧ ec = chkP (ddOf ds) ∧ lx = [] ∧ gl = [] ∧ ol = []) ∨
      (chk ByteArray.empty l = 0 ∧ chkP (ddOf ds) = 0 ∧ ec = 0 ∧ Ok lx ∧ valOf lx = (plS (ddOf ds) ps (valOf l) (ddOf ds).length).1 ∧ gl = (plS (ddOf ds) ps (valOf l) (ddOf ds).length).2 ∧ ol = playN (ddOf ds) ps (ddOf ds).length))
theorem play_res (A D P : Option Addr) (c cd cp : Nat) (l : List Pr) (ds : List Dl) (ps : List Int) (w : World) (hA : SV w A c l) (hl : l.length < 4611686018427387904) (hD : DS w D ds) (hld : ds.length ≤ 9223372036854775807) (hP : IS w P ps) (hpl : ps.length ≤ 9223372036854775807) :
    Calls Tryz.prog 4 #[.slice A l.length c, .slice D ds.length cd, .slice P ps.length cp] w (PlayRes w l ds ps) := by
  by_cases hc : chk ByteArray.empty l = 0
  · have h : Ok l := chk_ok.1 hc
    by_cases hp : chkP (ddOf ds) = 0
    · refine (play_ok A D P c cd cp l ds ps w hA h hD hp hP hpl).mono ?_
      rintro e w' ⟨A4, c4, l4, gx, A5, c5, rfl, hov, hok, hv, hex, hor, hb⟩
      exact ⟨A4, c4, l4, some ⟨gx, 0, none⟩, (ddOf ds).length, _, A5, c5, _, 0, by rw [plS_len, playN_len], hov.sv, hex.vs, hor.vs, hb, .inr (.inr ⟨hc, hp, rfl, hok, hv, rfl, rfl⟩)⟩
    · refine (play_bad2 A D P c cd cp l ds ps w hA.ps h hD hld hp).mono ?_
      rintro e w' ⟨rfl, hb⟩
      exact ⟨none, 0, [], none, 0, [], none, 0, [], _, rfl, SV.nil w', VS.nil, VS.nil, hb, .inr (.inl ⟨hc, hp, rfl, rfl, rfl, rfl⟩)⟩
  · refine (play_bad1 A D P c cd cp l ds ps w hA.ps hl hc).mono ?_
    rintro e w' ⟨rfl, hb⟩
    exact ⟨none, 0, [], none, 0, [], none, 0, [], _, rfl, SV.nil w', VS.nil, VS.nil, hb, .inl ⟨hc, rfl, rfl, rfl, rfl⟩⟩
theorem VS.litT (w : World) (t : TypeId) : VS (w.alloc (.cells #[.bool true] t)) (some ⟨w.heap.size, 0, none⟩) ([true].map Value.bool) := fun i v hv => by
  cases i with
  | zero => simp at hv; subst hv; exact ⟨w.heap.size, 0, rfl, by simp, by simp⟩
  | succ i => simp at hv
theorem Ok.vb_ {l : List Pr} (h : Ok l) (k : ByteArray) : valB (valOf l k) = true := by
  by_cases hz : valOf l k = 0
  · rw [hz]; decide
  · obtain ⟨q, hq, e⟩ := valOf_ne hz
    rw [← e, valOf_mem h.srt hq]
    exact h.val q hq

set_option maxHeartbeats 2000000 in
set_option maxRecDepth 100000 in
theorem pplays_any (A D P : Option Addr) (c cd cp : Nat) (l : List Pr) (ds : List Dl) (ps : List Int) (w : World) (hA : SV w A c l) (hl : l.length < 4611686018427387904) (hD : DS w D ds) (hld : ds.length ≤ 9223372036854775807) (hP : IS w P ps) (hpl : ps.length ≤ 9223372036854775807) :
    Calls Tryz.prog 3 #[.slice A l.length c, .slice D ds.length cd, .slice P ps.length cp] w fun e w' => e = .returned (.bool true) ∧ Below w.heap.size w w' := by
  have HP := hideP (play_res A D P c cd cp l ds ps w hA hl hD hld hP hpl)
  go_enter Tryz.func3, Tryz.ntmps3
  go_wp2_with fail
  refine HP.out.mono ?_
  rintro e w1 ⟨A1, c1, lx, G1, cg1, gl, O1, co1, ol, ec, rfl, hS1, hG1, hO1, hb1, hres⟩
  have HRES := hideP hres
  have HL := hideP (play_lit w1)
  clear HP hres
  go_wp2_with fail
  refine HL.out.mono ?_
  rintro e w2 ⟨A2, c2, gx, A3, c3, rfl, hv2, hv3, hb2⟩
  have hb3 := hb1.trans (hb2.mono hb1.size)
  have hS2 := hS1.below hb2
  have hG2 := hG1.below hb2
  have hO2 := hO1.below hb2
  have hb4 := (Below.refl w2.heap.size w2).alloc (Nat.le_refl _) (.cells #[.bool true] 4)
  have HB := hideP (bequal_same (some ⟨gx, 0, none⟩) (some ⟨w2.heap.size, 0, none⟩) 1 1 [true] _ (hv2.below hb4) (VS.litT w2 4) (by simp))
  clear HL hS1 hG1 hO1 hb1 hb2
  go_wp2_with fail
  refine HB.out.mono ?_
  rintro e w3 ⟨rfl, hb5⟩
  have hb6 := hb4.trans (hb5.mono hb4.size)
  have hv3' := hv3.below hb6
  have hb7 := hb3.trans (hb6.mono hb3.size)
  have hS3 := hS2.below hb6
  have hG3 := hG2.below hb6
  have hO3 := hO2.below hb6
  have hb8 := (Below.refl w3.heap.size w3).alloc (Nat.le_refl _) (.cells #[.int .i64 0] 3)
  have HQ := hideP (iequal_same A3 (some ⟨w3.heap.size, 0, none⟩) c3 1 [0] _ (hv3'.below hb8) (VS.lit0 w3 3) (by simp))
  clear HB hS2 hG2 hO2 hb3 hb4 hb5 hb6 hv2 hv3 hv3'
  go_wp2_with fail
  refine HQ.out.mono ?_
  rintro e w4 ⟨rfl, hb9⟩
  have hb10 := hb8.trans (hb9.mono hb8.size)
  have hb11 := hb7.trans (hb10.mono hb7.size)
  have hS4 := hS3.below hb10
  have hG4 := hG3.below hb10
  have hO4 := hO3.below hb10
  have HST := hideP (rstore_any A c l w4 (hA.below hb11).ps hl)
  clear HQ hS3 hG3 hO3 hb7 hb8 hb9 hb10
  by_cases hc : chk ByteArray.empty l = 0
  · rw [hc] at HST
    go_wp2_with fail
    refine HST.out.mono ?_
    rintro e w5 ⟨rfl, hb12⟩
    have hb13 := hb11.trans (hb12.mono hb11.size)
    have hS5 := hS4.below hb12
    have hG5 := hG4.below hb12
    have hO5 := hO4.below hb12
    have HDS := hideP (show Calls Tryz.prog 8 #[.slice D ds.length cd] w5 fun e w'' => e = .returned (.int .i64 (chkP (ddOf ds))) ∧ Below w5.heap.size w5 w'' from rdeeds_any D cd ds w5 (hD.below hb13))
    clear HST hS4 hG4 hO4 hb11 hb12
    by_cases hp : chkP (ddOf ds) = 0
    · rw [hp] at HDS
      rcases HRES.out with ⟨h0, _⟩ | ⟨_, h0, _⟩ | ⟨_, _, he, hok, hv, hg, ho⟩
      · exact absurd hc h0
      · exact absurd hp h0
      subst he; subst hg; subst ho
      have hokl : Ok l := chk_ok.1 hc
      have hdl : (ddOf ds).length = ds.length := ddOf_len ds
      rw [plS_len, playN_len, hdl]
      rw [hdl] at hv hG5 hO5
      have hn60 : ds.length ≤ 60 := by have := (chkP_zero.1 hp).1; omega
      have HV := hideP hv
      have HCP := hideP hp
      clear hv HRES hc hp hdl
      go_wp2_with fail
      refine HDS.out.mono ?_
      rintro e w6 ⟨rfl, hb14⟩
      have hb15 := hb13.trans (hb14.mono hb13.size)
      have hS6 := hS5.below hb14
      have hG6 := hG5.below hb14
      have hO6 := hO5.below hb14
      have HOF := hideP (of_mv A c l w6 (hA.below hb15) hokl)
      clear HDS hS5 hG5 hO5 hb13 hb14
      go_wp2_with fail
      refine HOF.out.mono ?_
      rintro e w7 ⟨bm, rfl, hM7, hb16⟩
      have hb17 := hb15.trans (hb16.mono hb15.size)
      have hS7 := hS6.below hb16
      have hG7 := hG6.below hb16
      have hO7 := hO6.below hb16
      have hsm := hokl.small
      have HRP := hideP (rplay_any bm l.length (valOf l) D P cd cp ds ps w7 hM7 (by omega) hokl.vb_ (hD.below hb17) HCP.out (hP.below hb17) hpl)
      clear HOF hS6 hG6 hO6 hb15 hb16 hM7
      go_wp2_with fail
      refine HRP.out.mono ?_
      rintro e w8 ⟨b8, gx8, A8, c8, rfl, hM8, hx8, ho8, hb18⟩
      have hb19 := hb17.trans (hb18.mono hb17.size)
      have hS8 := hS7.below hb18
      have hG8 := hG7.below hb18
      have hO8 := hO7.below hb18
      have HLI := hideP (list_mv b8 _ _ lx w8 hM8 (by omega) hok HV.out)
      have hlen1 := plS_len (dd := ddOf ds) (ps := ps) (valOf l) ds.length
      have hlen2 := playN_len (ddOf ds) ps ds.length
      rw [ddOf_len] at hlen1
      generalize (plS (ddOf ds) ps (valOf l) ds.length).2 = gl at hG8 hx8 hlen1
      generalize playN (ddOf ds) ps ds.length = ol at hO8 ho8 hlen2
      have HL1 := hideP hlen1
      have HL2 := hideP hlen2
      clear HRP hS7 hG7 hO7 hb17 hb18 hlen1 hlen2 hM8
      go_wp2_with fail
      refine HLI.out.mono ?_
      rintro e w9 ⟨A9, c9, rfl, hS9, hb20⟩
      have hb21 := hb19.trans (hb20.mono hb19.size)
      have HE1 := hideP (equal_same A1 A9 c1 c9 lx w9 (hS8.below hb20).ps hS9.ps (by have := hok.small; omega))
      have hG9 := hG8.below hb20
      have hO9 := hO8.below hb20
      have hx9 := hx8.below hb20
      have ho9 := ho8.below hb20
      clear HLI hS8 hG8 hO8 hx8 ho8 hb19 hb20
      go_wp2_with fail
      refine HE1.out.mono ?_
      rintro e w10 ⟨rfl, hb22⟩
      have hb23 := hb21.trans (hb22.mono hb21.size)
      have HE2 := hideP (bequal_same G1 (some ⟨gx8, 0, none⟩) cg1 ds.length gl w10 (hG9.below hb22) (hx9.below hb22) (by rw [HL1.out]; omega))
      rw [HL1.out] at HE2
      have hO10 := hO9.below hb22
      have ho10 := ho9.below hb22
      clear HE1 hG9 hO9 hx9 ho9 hb21 hb22
      go_wp2_with fail
      refine HE2.out.mono ?_
      rintro e w11 ⟨rfl, hb24⟩
      have hb25 := hb23.trans (hb24.mono hb23.size)
      have HE3 := hideP (iequal_same O1 A8 co1 c8 ol w11 (hO10.below hb24) (ho10.below hb24) (by rw [HL2.out]; omega))
      rw [HL2.out] at HE3
      clear HE2 hO10 ho10 hb23 hb24
      go_wp2_with fail
      refine HE3.out.mono ?_
      rintro e w12 ⟨rfl, hb26⟩
      have hb27 := hb25.trans (hb26.mono hb25.size)
      go_wp2_with fail
      go_ret
      exact ⟨rfl, hb27⟩
    · rcases HRES.out with ⟨h0, _⟩ | ⟨_, h0, rfl, rfl, rfl, rfl⟩ | ⟨_, h0, _⟩
      · exact absurd hc h0
      · have d1 : (chkP (ddOf ds) != 0) = true := by simp [hp]
        have d2 : (chkP (ddOf ds) == chkP (ddOf ds)) = true := by simp
        clear h0 hp HRES hc
        generalize chkP (ddOf ds) = q at d1 d2 HDS
        go_wp2_with fail
        refine HDS.out.mono ?_
        rintro e w6 ⟨rfl, hb14⟩
        have hb15 := hb13.trans (hb14.mono hb13.size)
        go_wp2_with fail
        go_ret
        exact ⟨rfl, hb15⟩
      · exact absurd h0 hp
  · rcases HRES.out with ⟨_, rfl, rfl, rfl, rfl⟩ | ⟨h0, _⟩ | ⟨h0, _⟩
    · have d0 : (chk ByteArray.empty l == 0) = false := beq_false_of_ne hc
      have d1 : (chk ByteArray.empty l != 0) = true := by simp [hc]
      have d2 : (chk ByteArray.empty l == chk ByteArray.empty l) = true := by simp
      clear hc HRES
      generalize chk ByteArray.empty l = q at d0 d1 d2 HST
      go_wp2_with fail
      refine HST.out.mono ?_
      rintro e w5 ⟨rfl, hb12⟩
      have hb13 := hb11.trans (hb12.mono hb11.size)
      go_wp2_with fail
      go_ret
      exact ⟨rfl, hb13⟩
    · exact absurd h0 hc
    · exact absurd h0 hc
end Go.Proofs.YtgcnbifgnaepnaaGreatDoor

set_option linter.unusedVariables false
set_option linter.unusedSimpArgs false
namespace Go.Proofs.YtgcnbifgnaepnaaGreatDoor
open Go.RowKit Go.ChangeShapes Go.WideShapes Go.Deep

def strOf : Value → ByteArray | .string s => s | _ => ByteArray.empty
theorem pairU : ∃ f0 f1, Tryz.prog.underlying 45 = some (.struct #[f0, f1]) ∧ f0.offset = 0 ∧ f1.offset = 1 ∧ f0.type = 9 ∧ f1.type = 3 := ⟨_, _, Tryz.underlying45, rfl, rfl, rfl, rfl⟩
theorem open_pairs {H : Type} {enc : TypeId × Value → H} {W : World} {A : Option Addr} {len cap : Nat} {d : DataW H} {p : List MemPlace} (h : DataW.Trod enc Tryz.prog W 0 (fun _ => true) true 22 (.slice A len cap) d p) :
    ∃ l : List Pr, l.length = len ∧ SV W A cap l ∧ Rd l ∧ (d = .nil ∧ len = 0 ∨ ∃ es sp, d = .slice es sp ∧ es.length = len) := by
  obtain ⟨fuel, hf⟩ := h
  obtain ⟨f0, f1, hu, o0, o1, t0, t1⟩ := pairU
  rcases open_slice_pairs Tryz.underlying22 hu (by kernel_rfl) o0 o1 (by rw [t0]; kernel_rfl) (by rw [t1]; kernel_rfl) hf with ⟨hcs, hx⟩ | ⟨a, len', cap', m, n, V0, V1, D0, D1, P0, P1, hcs, _, hl, hm, hmm, hx, hc⟩
  · simp [Value.cells] at hcs
    obtain ⟨rfl, rfl, rfl⟩ := hcs
    simp only [Prod.mk.injEq] at hx
    exact ⟨[], rfl, SV.nil W, fun p hp => by simp at hp, .inl ⟨hx.1, rfl⟩⟩
  · simp [Value.cells] at hcs
    obtain ⟨rfl, rfl, rfl⟩ := hcs
    simp only [if_true] at hmm
    subst hmm
    simp only [Prod.mk.injEq] at hx
    have hs : ∀ i, i < m → ∃ s n, V0 i = .string s ∧ V1 i = .int .i64 n ∧ s.size ≤ maxLen ∧ (Lit.int .i64 n).wf = true := fun i hi => by
      obtain ⟨_, _, h3, h4⟩ := hc i hi
      rw [t0] at h3
      rw [t1] at h4
      obtain ⟨s, e1, _, e2⟩ := DataW.trod_string Tryz.underlying9 h3
      obtain ⟨z, e3, _, e4⟩ := DataW.trod_int Tryz.underlying3 h4
      exact ⟨s, z, by simpa using e1, by simpa using e3, e2, e4⟩
    have hlit : ∀ i, i < m → ∃ b o, a = ⟨b, o, none⟩ := fun i hi => by
      have h0 := (hc 0 (by omega)).1
      obtain ⟨b, o, sp⟩ := a
      have hsp : sp = none := by simpa [Addr.add] using World.cell?_spot h0
      subst hsp
      exact ⟨b, o, rfl⟩
    refine ⟨(List.range len).map fun i => (strOf (V0 i), intOf (V1 i)), by simp, ⟨fun i q hq => ?_, by simpa using hl, hm, (fun e => by cases e), fun h0 x hx => ?_⟩, fun q hq => ?_, .inr ⟨_, _, hx.1, by simp⟩⟩
    · have hi : i < len := by
        rcases Nat.lt_or_ge i len with h | h
        · exact h
        · simp [h] at hq
      obtain ⟨b, o, rfl⟩ := hlit i (by omega)
      obtain ⟨s, z, e1, e2, _, _⟩ := hs i (by omega)
      obtain ⟨c1, c2, _, _⟩ := hc i (by omega)
      simp [hi, e1, e2, strOf, intOf] at hq
      subst hq
      rw [Addr.add_lit, e1] at c1
      rw [Addr.add_lit, e2, ← Nat.add_assoc] at c2
      exact ⟨b, o, rfl, cell_lt c1, c1, c2⟩
    · injection hx with hx
      obtain ⟨b, o, rfl⟩ := hlit 0 h0
      exact ⟨b, o, hx.symm⟩
    · simp at hq
      obtain ⟨i, hi, rfl⟩ := hq
      obtain ⟨s, z, e1, e2, e3, e4⟩ := hs i (by omega)
      simp [e1, e2, strOf, intOf]
      exact ⟨e3, e4⟩
theorem pair_bytes : Tryz.prog.bytesOf 45 = 24 := by kernel_rfl
theorem reach : reachBytes = 140737488351232 := by decide
end Go.Proofs.YtgcnbifgnaepnaaGreatDoor
