/-
  slices.Concat of two, at bools.
  (*parts.Parts).Map.
  parts.New and Map.
-/
import Derived.Test.YtcopmdgcjnkiaaaGreatBw38
import Derived.Test.YtcopmdgcjnkiaaaGreatBw21
import Derived.Test.YtcopmdgcjnkiaaaGreatBw35
import Derived.Test.YtcopmdgcjnkiaaaGreatBw33
set_option linter.unusedVariables false
set_option linter.unusedSimpArgs false
namespace Go.Proofs.YtcopmdgcjnkiaaaGreat
open Go.RowKit

/-- a slice of bools: where, its capacity, what it reads as -/
structure Bl where
  A : Option Addr
  c : Nat
  l : List Bool
def catB (ss : List Bl) : List Bool := ss.flatMap (·.l)
theorem catB_take (ss : List Bl) (k : Nat) (h : k < ss.length) : catB (ss.take (k + 1)) = catB (ss.take k) ++ (ss[k]).l := by
  unfold catB; rw [List.take_succ_eq_append_getElem h, List.flatMap_append]; simp
theorem catB_le (ss : List Bl) (k : Nat) : (catB (ss.take k)).length ≤ (catB ss).length := by
  have : catB ss = catB (ss.take k) ++ catB (ss.drop k) := by unfold catB; rw [← List.flatMap_append, List.take_append_drop]
  rw [this, List.length_append]; omega
structure Bls (w : World) (g o : Nat) (ss : List Bl) : Prop where
  lt : g < w.heap.size
  cell : ∀ j s, ss[j]? = some s → w.cell? ⟨g, o + j, none⟩ = some (.slice s.A s.l.length s.c)
  vs : ∀ s ∈ ss, VS w s.A (s.l.map Value.bool)
def BInv (w : World) (ss : List Bl) (v i : Value) (wr : World) : Prop :=
  ∃ (k : Nat) (A : Option Addr) (c : Nat), k ≤ ss.length ∧ i = .int .i64 k ∧ v = .slice A (catB (ss.take k)).length c ∧ OR wr w.heap.size 4 A c ((catB (ss.take k)).map Value.bool) ∧ Below w.heap.size w wr

set_option maxHeartbeats 400000 in
set_option maxRecDepth 100000 in
theorem bconcat_any (g o c : Nat) (ss : List Bl) (w : World) (hS : Bls w g o ss) (hn : (catB ss).length ≤ 1000000) (hs : ss.length ≤ 1000) :
    Calls Tryz.prog 43 #[.slice (some ⟨g, o, none⟩) ss.length c] w fun e w' => ∃ A c, e = .returned (.slice A (catB ss).length c) ∧ OR w' w.heap.size 4 A c ((catB ss).map Value.bool) ∧ Below w.heap.size w w' := by
  go_enter Tryz.func43, Tryz.ntmps43
  go_wp2_with fail
  go_loop [3, 11] (fun z i => ∃ k : Nat, k ≤ ss.length ∧ i = .int .i64 k ∧ z = .int .i64 ((catB (ss.take k)).length : Nat)) (fun _ i => ss.length - (intOf i).toNat)
  case atStart => exact ⟨0, Nat.zero_le _, rfl, rfl⟩
  case round =>
    obtain ⟨k, hk, rfl, rfl⟩ := hrel
    by_cases hlt : k < ss.length
    · have c1 := hS.cell k _ (List.getElem?_eq_getElem hlt)
      have h1 := catB_le ss (k + 1)
      have h2 := hideP (show (catB (ss.take (k + 1))).length = (catB (ss.take k)).length + (ss[k]).l.length by rw [catB_take ss k hlt, List.length_append])
      rw [catB_take ss k hlt, List.length_append] at h1
      generalize ss[k] = s at c1 h1 h2
      generalize (catB (ss.take k)).length = z at h1 h2 ⊢
      go_wp2_with fail
      go_round
      case rel => exact ⟨k + 1, by omega, by go_num, by rw [h2.out]; go_num⟩
      case measure => simp [intOf]; omega
    · have hz : (catB (ss.take k)).length = (catB ss).length := by rw [List.take_of_length_le (by omega)]
      rw [hz]
      clear hz
      go_wp2_with fail
      refine (bgrow_any _ _ (by omega)).mono ?_
      rintro e w0 ⟨v0, rfl, hown0, hb0⟩
      obtain ⟨A0, c0, rfl, hO0⟩ := OR.of_own hown0
      go_wp2_with fail
      go_loopw [6, 27] (BInv w ss) (fun _ i _ => ss.length - (intOf i).toNat)
      case atStart => exact ⟨0, A0, c0, Nat.zero_le _, rfl, rfl, hO0, hb0⟩
      case round =>
        obtain ⟨k, Ak, ck, hk, rfl, rfl, hown, hb⟩ := hrel
        by_cases hlt : k < ss.length
        · have c1 := (hb.cell (p := ⟨g, o + k, none⟩) hS.lt).trans (hS.cell k _ (List.getElem?_eq_getElem hlt))
          have hvs := (hS.vs _ (List.getElem_mem hlt)).below hb
          have hle := catB_le ss (k + 1)
          rw [catB_take ss k hlt, List.length_append] at hle
          obtain ⟨A', c', w1, hrun, hown', hg'⟩ := app_src (P := Tryz.prog) Tryz.underlying55 boolInfo rfl wr w.heap.size 55 Ak ck _ hown (ss[k]).A (ss[k]).c _ hvs (by intro u hu; obtain ⟨x, _, rfl⟩ := List.mem_map.1 hu; rfl) (by simp; omega) (by decide) hb.size
          have hb1 : Below w.heap.size w w1 := hb.grown hg' hb.size (fun j hj => (World.ownsRow.lt hown j hj).1)
          rw [← List.map_append, ← catB_take ss k hlt] at hrun hown'
          simp only [List.length_map] at hrun
          have HR := hideP hrun
          clear hrun hown hvs hS hg'
          generalize ss[k] = s at c1 HR hle
          go_wp2_with (at_builtin; refine Lib.wpList_append_run _ rfl _ _ _ _ rfl _ _ rfl rfl _ _ HR.out ?_)
          go_roundw
          case rel => exact ⟨k + 1, A', c', by omega, by go_num, rfl, hown', hb1⟩
          case measure => simp [intOf]; omega
        · rw [List.take_of_length_le (by omega)] at hown ⊢
          go_wp2_with fail
          go_ret
          exact ⟨Ak, ck, rfl, hown, hb⟩
theorem bconcat2 (w : World) (g : Nat) (hg : g = w.heap.size) (A1 A2 : Option Addr) (n1 n2 c1 c2 : Nat) (l1 l2 : List Bool) (e1 : n1 = l1.length) (e2 : n2 = l2.length)
    (p1 : VS w A1 (l1.map Value.bool)) (p2 : VS w A2 (l2.map Value.bool)) (hn : l1.length + l2.length ≤ 1000000) :
    Calls Tryz.prog 43 #[.slice (some ⟨g, 0, none⟩) 2 2] (w.alloc (.cells #[.slice A1 n1 c1, .slice A2 n2 c2] 55)) fun e w' => ∃ A c, e = .returned (.slice A (l1 ++ l2).length c) ∧ OR w' w.heap.size 4 A c ((l1 ++ l2).map Value.bool) ∧ Below w.heap.size w w' := by
  subst hg e1 e2
  have hb := (Below.refl w.heap.size w).alloc (Nat.le_refl _) (.cells #[.slice A1 l1.length c1, .slice A2 l2.length c2] 55)
  have h := bconcat_any w.heap.size 0 2 [⟨A1, c1, l1⟩, ⟨A2, c2, l2⟩] (w.alloc (.cells #[.slice A1 l1.length c1, .slice A2 l2.length c2] 55))
    ⟨by simp, fun j s hj => by
      match j with
      | 0 => simp at hj; subst hj; simp
      | 1 => simp at hj; subst hj; simp
      | j + 2 => simp at hj, fun s hs => by
      simp at hs
      rcases hs with rfl | rfl
      · exact p1.below hb
      · exact p2.below hb⟩ (by simp [catB]; omega) (by simp)
  have e : catB [⟨A1, c1, l1⟩, ⟨A2, c2, l2⟩] = l1 ++ l2 := by simp [catB]
  rw [e] at h
  exact h.mono fun e w' ⟨A, c, h1, h2, h3⟩ => ⟨A, c, h1, h2.mono hb.size, hb.trans (h3.mono hb.size)⟩
end Go.Proofs.YtcopmdgcjnkiaaaGreat

set_option linter.unusedVariables false
set_option linter.unusedSimpArgs false
namespace Go.Proofs.YtcopmdgcjnkiaaaGreat
open Go.RowKit

set_option maxHeartbeats 400000 in
set_option maxRecDepth 100000 in
theorem map_ok (B g : Nat) (m : Mp) (l : List Pr) (q : Dv) (w : World) (h : PB w B g m l q) :
    Calls Tryz.prog 71 #[.pointer (some ⟨g, 0, none⟩)] w
      fun e w' => ∃ A ca O co, e = .returned (.agg #[.slice A m.cs.length ca, .slice O m.os.length co]) ∧ MO w' w.heap.size ⟨A, ca, m.cs, O, co, m.os⟩ ∧ Below w.heap.size w w' := by
  have hb0 := (Below.refl w.heap.size w).alloc (Nat.le_refl _) (.cells #[.slice none 0 0, .slice none 0 0] 31)
  have hP := h.below hb0
  have hfew := h.okm.few
  have hlen := h.okm.len
  have HCL := hideP (fun (W : World) (h : PB W B g m l q) => clone_any m W h.mo.ms (by omega) (by omega))
  have x := Box.new w 31 #[.slice none 0 0, .slice none 0 0]
  have z1 := hP.c0
  have z2 := hP.c1
  clear h hfew hlen
  go_enter Tryz.func71, Tryz.ntmps71
  go_wp2_with fail
  refine (HCL.out _ hP).mono ?_
  rintro e w2 ⟨A', ca', O', co', rfl, hn, hb2⟩
  have hb3 := hb0.trans (hb2.mono hb0.size)
  replace x := x.below hb2
  have f0 := x.frozen 0
  have f1 := (x.set 0 (.slice A' m.cs.length ca')).frozen 1
  have d0 := x.cell 0 (v := .slice none 0 0) rfl
  have d1 := (x.set 0 (.slice A' m.cs.length ca')).cell 1 (v := .slice none 0 0) rfl
  have o2 := (x.set 0 (.slice A' m.cs.length ca')).set 1 (.slice O' m.os.length co')
  have q0 := o2.cell 0 (v := .slice A' m.cs.length ca') rfl
  have q1 := o2.cell 1 (v := .slice O' m.os.length co') rfl
  have HF := hideP (res_set (w := w) x (Nat.le_refl _) (hn.mono hb0.size) hb3 (.slice A' m.cs.length ca') (.slice O' m.os.length co'))
  clear HCL hP hn hb2 hb3 hb0 z1 z2 x o2
  go_wp2_with fail
  exact bodyPost_ret (v := .agg #[.slice A' m.cs.length ca', .slice O' m.os.length co']) (by simp [results, Tryz.results71, go_sem, q0, q1]) rfl ⟨A', ca', O', co', rfl, HF.out.1, HF.out.2⟩
end Go.Proofs.YtcopmdgcjnkiaaaGreat

set_option linter.unusedVariables false
set_option linter.unusedSimpArgs false
namespace Go.Proofs.YtcopmdgcjnkiaaaGreat
open Go.RowKit

/-- while New runs -/
structure NwH (w : World) (g : Nat) (m : Mp) (l : List Pr) (q : Dv) (wr : World) : Prop where
  mh : MH w g m wr
  own : q.Own wr w.heap.size m.cs m.os l 4
  low : w.heap.size ≤ g
theorem NwH.below {w wr w' : World} {g : Nat} {m : Mp} {l : List Pr} {q : Dv} (h : NwH w g m l q wr) (hb : Below wr.heap.size wr w') : NwH w g m l q w' := ⟨h.mh.below hb, h.own.below hb, h.low⟩
/-- a partitioned store is handed back -/
def RetNw (w : World) (cs : List ByteArray) (os : List Int) (l : List Pr) (e : Ending) (w' : World) : Prop :=
  ∃ (g : Nat) (A : Option Addr) (ca : Nat) (O : Option Addr) (co : Nat) (q : Dv), e = .returned (.tuple #[.pointer (some ⟨g, 0, none⟩), .int .i64 0]) ∧ PB w' w.heap.size g ⟨A, ca, cs, O, co, os⟩ l q ∧ Below w.heap.size w w'

set_option maxHeartbeats 2000000 in
set_option maxRecDepth 100000 in
theorem new_ok (m : Mp) (A : Option Addr) (c : Nat) (l : List Pr) (w : World) (hm : MS w m) (hA : PS w w.heap.size A l) (hok : OkM m.cs m.os) (hokl : Ok l) :
    Calls Tryz.prog 32 #[.agg #[.slice m.A m.cs.length m.ca, .slice m.O m.os.length m.co], .slice A l.length c] w (RetNw w m.cs m.os l) := by
  have hH := MH.new hm
  have hps := (hA.below hH.be).more hH.be.size
  obtain ⟨z1, z2⟩ := hH.c
  go_enter Tryz.func32, Tryz.ntmps32
  go_wp2_with fail
  generalize w.alloc _ = w1 at hH hps z1 z2 ⊢
  generalize hg : w.heap.size = g at hH z1 z2 ⊢
  refine (divide_ok m A c l _ hH.ms hps hok hokl).mono ?_
  rintro e w2 ⟨q, rfl, hq, hb2⟩
  have hN : NwH w g m l q w2 := ⟨hH.below hb2, hq.mono hH.be.size, by omega⟩
  clear hH hps hb2 z1 z2 hq hA
  simp only [Dv.ar]
  obtain ⟨a0, n0, c0, e0⟩ : ∃ a n c, q.s m.cs m.os l 0 = .slice a n c := ⟨_, _, _, rfl⟩
  obtain ⟨a1, n1, c1, e1⟩ : ∃ a n c, q.s m.cs m.os l 1 = .slice a n c := ⟨_, _, _, rfl⟩
  obtain ⟨a2, n2, c2, e2⟩ : ∃ a n c, q.s m.cs m.os l 2 = .slice a n c := ⟨_, _, _, rfl⟩
  obtain ⟨a3, n3, c3, e3⟩ : ∃ a n c, q.s m.cs m.os l 3 = .slice a n c := ⟨_, _, _, rfl⟩
  rw [e0, e1, e2, e3]
  have HE := hideP (show q.s m.cs m.os l 0 = .slice a0 n0 c0 ∧ q.s m.cs m.os l 1 = .slice a1 n1 c1 ∧ q.s m.cs m.os l 2 = .slice a2 n2 c2 ∧ q.s m.cs m.os l 3 = .slice a3 n3 c3 from ⟨e0, e1, e2, e3⟩)
  clear e0 e1 e2 e3
  have hN3 := hN.below ((Below.refl _ _).alloc (Nat.le_refl _) (.cells #[.slice a0 n0 c0, .slice a1 n1 c1, .slice a2 n2 c2, .slice a3 n3 c3] 122))
  have y := Box.new w2 122 #[.slice a0 n0 c0, .slice a1 n1 c1, .slice a2 n2 c2, .slice a3 n3 c3]
  clear hN
  go_wp2_with fail
  generalize w2.alloc _ = w3 at hN3 y ⊢
  generalize w2.heap.size = gd at y ⊢
  have HS := hideP (fun (W : World) (h : NwH w g m l q W) (y : Box W gd 122 #[.slice a0 n0 c0, .slice a1 n1 c1, .slice a2 n2 c2, .slice a3 n3 c3]) =>
    show (W.cell? ⟨g, 0, none⟩ = some (.slice m.A m.cs.length m.ca) ∧ W.cell? ⟨g, 1, none⟩ = some (.slice m.O m.os.length m.co)) ∧ W.cell? ⟨gd, 0, none⟩ = some (.slice a0 n0 c0) ∧ W.cell? ⟨gd, 1, none⟩ = some (.slice a1 n1 c1) ∧ W.cell? ⟨gd, 2, none⟩ = some (.slice a2 n2 c2) ∧ W.cell? ⟨gd, 3, none⟩ = some (.slice a3 n3 c3) from
      ⟨h.mh.c, y.cell 0 rfl, y.cell 1 rfl, y.cell 2 rfl, y.cell 3 rfl⟩)
  have HCL := hideP (fun (W : World) (h : NwH w g m l q W) => clone_any m W h.mh.ms (by have := hok.few; omega) (by have := hok.few; have := hok.len; omega))
  have HFIN := hideP (fun (W : World) (h : NwH w g m l q W) (A' : Option Addr) (ca' : Nat) (O' : Option Addr) (co' : Nat) (hn : MO W w.heap.size ⟨A', ca', m.cs, O', co', m.os⟩) =>
    show RetNw w m.cs m.os l (.returned (.tuple #[.pointer (some ⟨W.heap.size, 0, none⟩), .int .i64 0])) (W.alloc (.cells #[.slice A' m.cs.length ca', .slice O' m.os.length co', .slice a0 n0 c0, .slice a1 n1 c1, .slice a2 n2 c2, .slice a3 n3 c3] 127)) from by
      have hb := (Below.refl W.heap.size W).alloc (Nat.le_refl _) (.cells #[.slice A' m.cs.length ca', .slice O' m.os.length co', .slice a0 n0 c0, .slice a1 n1 c1, .slice a2 n2 c2, .slice a3 n3 c3] 127)
      refine ⟨W.heap.size, A', ca', O', co', q, rfl, ⟨?_, hn.below hb, h.own.below hb, hok, hokl, h.mh.be.size⟩, h.mh.be.trans (hb.mono h.mh.be.size)⟩
      obtain ⟨e0, e1, e2, e3⟩ := HE.out
      simp only [e0, e1, e2, e3]
      exact Box.new _ _ _)
  replace hN3 := hN3.below (Below.refl _ _).drew
  replace y := y.drew
  have hlow := hN3.low
  clear HE hok hokl
  go_region_held3 (fun W => (W.cell? ⟨g, 0, none⟩ = some (.slice m.A m.cs.length m.ca) ∧ W.cell? ⟨g, 1, none⟩ = some (.slice m.O m.os.length m.co)) ∧ W.cell? ⟨gd, 0, none⟩ = some (.slice a0 n0 c0) ∧ W.cell? ⟨gd, 1, none⟩ = some (.slice a1 n1 c1) ∧ W.cell? ⟨gd, 2, none⟩ = some (.slice a2 n2 c2) ∧ W.cell? ⟨gd, 3, none⟩ = some (.slice a3 n3 c3)) (first | with_reducible exact HS.out _ hN4 y4 | with_reducible exact HS.out _ hN3 y | with_reducible exact hS5) (first
    | (go_at_call 56; refine (HCL.out _ hN3).mono ?_; rintro e w4 ⟨A', ca', O', co', rfl, hn, hb4⟩; have hN4 := hN3.below hb4; have y4 := y.below hb4; have HF := hideP (HFIN.out w4 hN4 A' ca' O' co' (hn.mono hN3.mh.be.size)); have hS5 := HS.out _ (hN4.below ((Below.refl _ _).alloc (Nat.le_refl _) (.cells #[.slice A' m.cs.length ca', .slice O' m.os.length co', .slice a0 n0 c0, .slice a1 n1 c1, .slice a2 n2 c2, .slice a3 n3 c3] 127))) (y4.alloc _)))
  all_goals
    go_wp2_with fail
    go_ret2
    exact HF.out
end Go.Proofs.YtcopmdgcjnkiaaaGreat
