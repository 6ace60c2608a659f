/-
  rokeep.Map.
-/
import Derived.Test.YtmepmiokpcddbabGreatDoorCb15
import Derived.Test.YtmepmiokpcddbabGreatDoorCb2
import Derived.Test.YtmepmiokpcddbabGreatDoorCb3
import Derived.Test.YtmepmiokpcddbabGreatDoorCb11
set_option linter.unusedVariables false
set_option linter.unusedSimpArgs false
namespace Go.Proofs.YtmepmiokpcddbabGreatDoor
open Go.RowKit

def litC : Array Value := #[.string ⟨#[97]⟩, .string ⟨#[98]⟩, .string ⟨#[98, 98]⟩, .string ⟨#[100]⟩, .string ⟨#[109]⟩, .string ⟨#[112]⟩]
/-- the map while it is made -/
structure Mb (w : World) (gr gm gl : Nat) (zs : List Int) (k : Nat) (A : Option Addr) (ca : Nat) (O : Option Addr) (co : Nat) (wr : World) : Prop where
  box : Box wr gm 28 #[.slice A (mapR zs k).1.length ca, .slice O (mapR zs k).2.length co]
  res : Box wr gr 28 #[.slice none 0 0, .slice none 0 0]
  cuts : OR wr w.heap.size 9 A ca ((mapR zs k).1.map Value.string)
  own : OR wr w.heap.size 3 O co (nV (mapR zs k).2)
  lit : Box wr gl 9 litC
  nel : (Value.slice A (mapR zs k).1.length ca).ownBlock ≠ some gl
  ne : gm ≠ gr
  lowm : w.heap.size ≤ gm
  lowr : w.heap.size ≤ gr
  bel : Below w.heap.size w wr
section
variable {w wr w' : World} {gr gm gl : Nat} {zs : List Int} {k : Nat} {A : Option Addr} {ca : Nat} {O : Option Addr} {co : Nat}
theorem Mb.below (h : Mb w gr gm gl zs k A ca O co wr) (hb : Below wr.heap.size wr w') : Mb w gr gm gl zs k A ca O co w' :=
  ⟨h.box.below hb, h.res.below hb, h.cuts.below hb, h.own.below hb, h.lit.below hb, h.nel, h.ne, h.lowm, h.lowr, h.bel.trans (hb.mono h.bel.size)⟩
set_option maxRecDepth 100000 in
/-- a cut is added -/
theorem Mb.step (h : Mb w gr gm gl zs k A ca O co wr) (hk : k < 6) (ht : mpT zs k = true) :
    ∃ A' ca' a1, (Builtin.append_ #[25, 25] 25 #[.slice A (mapR zs k).1.length ca, .slice (some ⟨wr.heap.size, 0, none⟩) 1 1]).run Tryz.prog (wr.alloc (.cells #[.string (cutsL.getD k ByteArray.empty)] 9)) = .ok (.slice A' ((mapR zs k).1.length + 1) ca') a1 ∧
      Box a1 gm 28 #[.slice A (mapR zs k).1.length ca, .slice O (mapR zs k).2.length co] ∧ Below w.heap.size w a1 ∧
      ∃ O' co' a2, (Builtin.append_ #[26, 26] 26 #[.slice O (mapR zs k).2.length co, .slice (some ⟨a1.heap.size, 0, none⟩) 1 1]).run Tryz.prog (a1.alloc (.cells #[.int .i64 ((wi ((zs.getD k 0).tdiv 3) 4 : Nat) : Int)] 3)) = .ok (.slice O' ((mapR zs k).2.length + 1) co') a2 ∧
        Box a2 gm 28 #[.slice A (mapR zs k).1.length ca, .slice O (mapR zs k).2.length co] ∧ Below w.heap.size w a2 ∧
        Mb w gr gm gl zs (k + 1) A' ca' O' co' ((a2.setCell ⟨gm, 0, none⟩ (.slice A' ((mapR zs k).1.length + 1) ca')).setCell ⟨gm, 1, none⟩ (.slice O' ((mapR zs k).2.length + 1) co')) := by
  have hf := mapR_few zs k
  have hl := mapR_len zs k
  have hgl : gl < wr.heap.size := h.lit.lt
  obtain ⟨A', ca', a1, hrun, hor1, hbl1, hgr1, hnb⟩ := app_row (P := Tryz.prog) Tryz.underlying25 strInfo rfl wr w.heap.size 25 A ca _ h.cuts [.string (cutsL.getD k ByteArray.empty)] (by simp [Value.oneCell']) (by rw [List.length_map]; simp only [List.length_singleton]; omega) (by decide) h.bel.size
  have hal1 := (Below.refl wr.heap.size wr).alloc (Nat.le_refl _) (.cells #[.string (cutsL.getD k ByteArray.empty)] 9)
  have h1 := h.below hal1
  have hX1 : (mapR zs k).1.map Value.string ++ [Value.string (cutsL.getD k ByteArray.empty)] = ((mapR zs k).1 ++ [cutsL.getD k ByteArray.empty]).map Value.string := by simp
  rw [hX1] at hrun hor1 hnb
  rw [List.length_map, List.length_map, List.length_append, List.length_singleton] at hrun
  rw [List.length_map, List.length_map, List.length_append, List.length_singleton] at hnb
  rw [List.length_map] at hgr1
  have hcty : ∀ b, (Value.slice A (mapR zs k).1.length ca).ownBlock = some b → Ty (wr.alloc (.cells #[.string (cutsL.getD k ByteArray.empty)] 9)) b 9 := fun b hb => own_ty h1.cuts (by rw [List.length_map]; exact hb)
  have hbx1 := h1.box.grown hgr1 fun e => absurd ((hcty _ e.symm).inj h1.box.ty) (by decide)
  have hrs1 := h1.res.grown hgr1 fun e => absurd ((hcty _ e.symm).inj h1.res.ty) (by decide)
  have hli1 := h1.lit.grown hgr1 fun e => h.nel e.symm
  have how1 : OR a1 w.heap.size 3 O co (nV (mapR zs k).2) := World.ownsRow.kept h1.own hgr1 (by have := rows_ne h1.own h1.cuts (by decide); rwa [List.length_map] at this)
  have hb1 := hbl1 w.heap.size w (Nat.le_refl _) h.bel
  refine ⟨A', ca', a1, hrun, hbx1, hb1, ?_⟩
  obtain ⟨O', co', a2, hrun2, hor2, hbl2, hgr2, _⟩ := app_row (P := Tryz.prog) Tryz.underlying26 intInfo rfl a1 w.heap.size 26 O co _ how1 [.int .i64 ((wi ((zs.getD k 0).tdiv 3) 4 : Nat) : Int)] (by simp [Value.oneCell']) (by rw [nV_length]; simp only [List.length_singleton]; omega) (by decide) hb1.size
  have hX2 : nV (mapR zs k).2 ++ [Value.int .i64 ((wi ((zs.getD k 0).tdiv 3) 4 : Nat) : Int)] = nV ((mapR zs k).2 ++ [wi ((zs.getD k 0).tdiv 3) 4]) := by rw [nV_append]; rfl
  rw [hX2] at hrun2 hor2
  rw [nV_length, nV_length, List.length_append, List.length_singleton] at hrun2
  have hal2 := (Below.refl a1.heap.size a1).alloc (Nat.le_refl _) (.cells #[.int .i64 ((wi ((zs.getD k 0).tdiv 3) 4 : Nat) : Int)] 3)
  have how1a := how1.below hal2
  have hoty : ∀ b, (Value.slice O (nV (mapR zs k).2).length co).ownBlock = some b → Ty (a1.alloc (.cells #[.int .i64 ((wi ((zs.getD k 0).tdiv 3) 4 : Nat) : Int)] 3)) b 3 := fun b hb => own_ty how1a hb
  have hbx2 := (hbx1.below hal2).grown hgr2 fun e => absurd ((hoty _ e.symm).inj (hbx1.below hal2).ty) (by decide)
  have hrs2 := (hrs1.below hal2).grown hgr2 fun e => absurd ((hoty _ e.symm).inj (hrs1.below hal2).ty) (by decide)
  have hli2 := (hli1.below hal2).grown hgr2 fun e => absurd ((hoty _ e.symm).inj (hli1.below hal2).ty) (by decide)
  have hcu2 : OR a2 w.heap.size 9 A' ca' (((mapR zs k).1 ++ [cutsL.getD k ByteArray.empty]).map Value.string) := World.ownsRow.kept (hor1.below hal2) hgr2 (rows_ne (hor1.below hal2) how1a (by decide))
  have hb2 := hbl2 w.heap.size w (Nat.le_refl _) hb1
  refine ⟨O', co', a2, hrun2, hbx2, hb2, ?_⟩
  have g1 : a2.grownBy (a2.setCell ⟨gm, 0, none⟩ (.slice A' ((mapR zs k).1.length + 1) ca')) (some gm) := ⟨rfl, rfl, rfl, by simp [World.setCell], fun i _ hne => Below.heap_setCell a2 _ _ i (fun e => hne (by rw [e]))⟩
  have g2 : (a2.setCell ⟨gm, 0, none⟩ (.slice A' ((mapR zs k).1.length + 1) ca')).grownBy ((a2.setCell ⟨gm, 0, none⟩ (.slice A' ((mapR zs k).1.length + 1) ca')).setCell ⟨gm, 1, none⟩ (.slice O' ((mapR zs k).2.length + 1) co')) (some gm) := ⟨rfl, rfl, rfl, by simp [World.setCell], fun i _ hne => Below.heap_setCell _ _ _ i (fun e => hne (by rw [e]))⟩
  have hbxA := hbx2.set 0 (.slice A' ((mapR zs k).1.length + 1) ca')
  have hbxB := hbxA.set 1 (.slice O' ((mapR zs k).2.length + 1) co')
  have e1 : mapR zs (k + 1) = ((mapR zs k).1 ++ [cutsL.getD k ByteArray.empty], (mapR zs k).2 ++ [wi ((zs.getD k 0).tdiv 3) 4]) := by simp only [mapR]; rw [if_pos ht]
  have two : ∀ {t : TypeId} {s : Nat} {v : Value} {n : Nat} {xs : List Value}, a2.ownsRow w.heap.size t s v n xs → t ≠ 28 → ((a2.setCell ⟨gm, 0, none⟩ (.slice A' ((mapR zs k).1.length + 1) ca')).setCell ⟨gm, 1, none⟩ (.slice O' ((mapR zs k).2.length + 1) co')).ownsRow w.heap.size t s v n xs := fun ho hne => (ho.kept g1 (own_ne ho hbx2.ty hne)).kept g2 (own_ne (ho.kept g1 (own_ne ho hbx2.ty hne)) hbxA.ty hne)
  refine ⟨?_, ?_, ?_, ?_, ?_, ?_, h.ne, h.lowm, h.lowr, ?_⟩
  · rw [e1]; simpa using hbxB
  · exact (hrs2.grown g1 fun e => h.ne (by injection e with e; exact e.symm)).grown g2 fun e => h.ne (by injection e with e; exact e.symm)
  · rw [e1]; exact two hcu2 (by decide)
  · rw [e1]; exact two hor2 (by decide)
  · refine (hli2.grown g1 fun e => ?_).grown g2 fun e => ?_
    · injection e with e; have := hli2.ty; rw [e] at this; exact absurd (this.inj hbx2.ty) (by decide)
    · injection e with e; have := hli2.ty; rw [e] at this; exact absurd (this.inj hbx2.ty) (by decide)
  · rw [e1]
    simp only [List.length_append, List.length_singleton]
    rcases hnb with e | e
    · rw [e]; exact h.nel
    · rw [e]; intro e2; injection e2 with e2; omega
  · exact (hb2.grown g1 hb2.size (fun b hb => by injection hb with hb; subst hb; exact h.lowm)).grown g2 (Nat.le_trans hb2.size g1.size) (fun b hb => by injection hb with hb; subst hb; exact h.lowm)
end
theorem OR.of_box {w : World} {g B : Nat} {t : TypeId} {cs : Array Value} (h : Box w g t cs) (hB : B ≤ g) (hl : cs.size ≤ maxLen) : OR w B t (some ⟨g, 0, none⟩) cs.size cs.toList := by
  unfold OR
  rw [Array.length_toList]
  exact ⟨by simp, .inr ⟨g, cs.size, cs, rfl, hB, h, Nat.le_refl _, hl, by simp, by rw [Nat.mul_one]; exact List.take_of_length_le (by simp)⟩⟩
/-- what rokeep.Map hands back -/
def RetMp (w : World) (zs : List Int) (e : Ending) (w' : World) : Prop :=
  ∃ A ca O co, e = .returned (.agg #[.slice A (mapR zs 6).1.length ca, .slice O (mapR zs 6).2.length co]) ∧ OR w' w.heap.size 9 A ca ((mapR zs 6).1.map Value.string) ∧ OR w' w.heap.size 3 O co (nV (mapR zs 6).2) ∧ Below w.heap.size w w'
def MpI (w : World) (gr gm gl : Nat) (zs : List Int) (i : Value) (wr : World) : Prop := ∃ (k : Nat) (A : Option Addr) (ca : Nat) (O : Option Addr) (co : Nat), k ≤ 6 ∧ i = .int .i64 k ∧ Mb w gr gm gl zs k A ca O co wr
theorem wi_wrap (x : Int) (n : Nat) : wi (IntKind.i64.wrap x) n = wi x n := by
  have : IntKind.u64.wrap (IntKind.i64.wrap x) = IntKind.u64.wrap x := by simp only [IntKind.wrap_i64, IntKind.wrap_u64]; omega
  simp only [wi, this]
theorem litC_at {k : Nat} (hk : k < 6) : litC[k]? = some (.string (cutsL.getD k ByteArray.empty)) := by
  rcases k with _ | _ | _ | _ | _ | _ | k
  all_goals first | rfl | omega
theorem mapR_no {zs : List Int} {k : Nat} (h : mpT zs k = false) : mapR zs (k + 1) = mapR zs k := by simp [mapR, h]
theorem Mb.skip {w wr : World} {gr gm gl : Nat} {zs : List Int} {k : Nat} {A : Option Addr} {ca : Nat} {O : Option Addr} {co : Nat} (h : Mb w gr gm gl zs k A ca O co wr) (ht : mpT zs k = false) : Mb w gr gm gl zs (k + 1) A ca O co wr := by
  obtain ⟨h1, h2, h3, h4, h5, h6, h7, h8, h9, h10⟩ := h
  rw [← mapR_no ht] at h1 h3 h4 h6
  exact ⟨h1, h2, h3, h4, h5, h6, h7, h8, h9, h10⟩
def Sm (gm : Nat) (va vo : Value) (b o : Nat) (z : Int) (x : World) : Prop := x.cell? ⟨gm, 0, none⟩ = some va ∧ x.cell? ⟨gm, 1, none⟩ = some vo ∧ x.cell? ⟨b, o, none⟩ = some (.int .i64 z)
theorem sm_of {w x : World} {gm : Nat} {va vo : Value} {b o : Nat} {z : Int} (hB : Box x gm 28 #[va, vo]) (hb : Below w.heap.size w x) (hlt : b < w.heap.size) (hc : w.cell? ⟨b, o, none⟩ = some (.int .i64 z)) : Sm gm va vo b o z x :=
  ⟨hB.cell 0 rfl, hB.cell 1 rfl, (hb.cell hlt).trans hc⟩
theorem Mb.fin {w wr : World} {gr gm gl : Nat} {zs : List Int} {k : Nat} {A : Option Addr} {ca : Nat} {O : Option Addr} {co : Nat} (h : Mb w gr gm gl zs k A ca O co wr) (a b : Value) :
    OR ((wr.setCell ⟨gr, 0, none⟩ a).setCell ⟨gr, 1, none⟩ b) w.heap.size 9 A ca ((mapR zs k).1.map Value.string) ∧ OR ((wr.setCell ⟨gr, 0, none⟩ a).setCell ⟨gr, 1, none⟩ b) w.heap.size 3 O co (nV (mapR zs k).2) ∧ Below w.heap.size w ((wr.setCell ⟨gr, 0, none⟩ a).setCell ⟨gr, 1, none⟩ b) := by
  have g1 : wr.grownBy (wr.setCell ⟨gr, 0, none⟩ a) (some gr) := ⟨rfl, rfl, rfl, by simp [World.setCell], fun i _ hne => Below.heap_setCell wr _ _ i (fun e => hne (by rw [e]))⟩
  have g2 : (wr.setCell ⟨gr, 0, none⟩ a).grownBy ((wr.setCell ⟨gr, 0, none⟩ a).setCell ⟨gr, 1, none⟩ b) (some gr) := ⟨rfl, rfl, rfl, by simp [World.setCell], fun i _ hne => Below.heap_setCell _ _ _ i (fun e => hne (by rw [e]))⟩
  have hA := h.res.set 0 a
  have two : ∀ {t : TypeId} {s : Nat} {v : Value} {n : Nat} {xs : List Value}, wr.ownsRow w.heap.size t s v n xs → t ≠ 28 → ((wr.setCell ⟨gr, 0, none⟩ a).setCell ⟨gr, 1, none⟩ b).ownsRow w.heap.size t s v n xs := fun ho hne => (ho.kept g1 (own_ne ho h.res.ty hne)).kept g2 (own_ne (ho.kept g1 (own_ne ho h.res.ty hne)) hA.ty hne)
  exact ⟨two h.cuts (by decide), two h.own (by decide), (h.bel.grown g1 h.bel.size (fun b hb => by injection hb with hb; subst hb; exact h.lowr)).grown g2 (Nat.le_trans h.bel.size g1.size) (fun b hb => by injection hb with hb; subst hb; exact h.lowr)⟩
set_option maxHeartbeats 2000000 in
set_option maxRecDepth 100000 in
theorem kmap_any (P : Option Addr) (cp : Nat) (zs : List Int) (w : World) (hP : IS w P zs) (hl : zs.length ≤ 9223372036854775807) :
    Calls Tryz.prog 51 #[.slice P zs.length cp] w (RetMp w zs) := by
  have b1 := (Below.refl w.heap.size w).alloc (Nat.le_refl _) (.cells #[.slice none 0 0, .slice none 0 0] 28)
  have x1 := Box.new w 28 #[.slice none 0 0, .slice none 0 0]
  have x2 := Box.new (w.alloc (.cells #[.slice none 0 0, .slice none 0 0] 28)) 3 #[.int .i64 0]
  have x3 := Box.new ((w.alloc (.cells #[.slice none 0 0, .slice none 0 0] 28)).alloc (.cells #[.int .i64 0] 3)) 28 #[.slice none 0 0, .slice (some ⟨w.heap.size + 1, 0, none⟩) 1 1]
  have x4 := Box.new (((w.alloc (.cells #[.slice none 0 0, .slice none 0 0] 28)).alloc (.cells #[.int .i64 0] 3)).alloc (.cells #[.slice none 0 0, .slice (some ⟨w.heap.size + 1, 0, none⟩) 1 1] 28)) 9 litC
  simp only [World.size_alloc] at x2 x3 x4
  have b4 := ((b1.alloc (by simp) (.cells #[.int .i64 0] 3)).alloc (by simp; omega) (.cells #[.slice none 0 0, .slice (some ⟨w.heap.size + 1, 0, none⟩) 1 1] 28)).alloc (by simp; omega) (.cells litC 9)
  have HI := hideP (show MpI w w.heap.size (w.heap.size + 1 + 1) (w.heap.size + 1 + 1 + 1) zs (.int .i64 0) ((((w.alloc (.cells #[.slice none 0 0, .slice none 0 0] 28)).alloc (.cells #[.int .i64 0] 3)).alloc (.cells #[.slice none 0 0, .slice (some ⟨w.heap.size + 1, 0, none⟩) 1 1] 28)).alloc (.cells litC 9)) from
    ⟨0, none, 0, some ⟨w.heap.size + 1, 0, none⟩, 1, by omega, rfl, x3.alloc _, ((x1.alloc _).alloc _).alloc _, OR.nil _ _ _, OR.of_box (cs := #[.int .i64 0]) ((x2.alloc _).alloc _) (by omega) (by simp [maxLen]), x4, by simp [Value.ownBlock], by omega, by omega, by omega, b4⟩)
  clear x1 x2 x3 x4 b1 b4
  go_enter Tryz.func51, Tryz.ntmps51
  unfold litC at HI
  go_wp2_with fail
  generalize (((w.alloc (.cells #[.slice none 0 0, .slice none 0 0] 28)).alloc (.cells #[.int .i64 0] 3)).alloc (.cells #[.slice none 0 0, .slice (some ⟨w.heap.size + 1, 0, none⟩) 1 1] 28)).alloc _ = w0 at HI ⊢
  generalize w.heap.size + 1 + 1 + 1 = gl at HI ⊢
  generalize w.heap.size + 1 + 1 = gm at HI ⊢
  generalize w.heap.size + 1 = gi at HI ⊢
  generalize w.heap.size = gr at HI ⊢
  go_loopw [10] (MpI w gr gm gl zs) (fun i _ => 6 - (intOf i).toNat)
  case atStart => exact HI.out
  case round =>
    obtain ⟨k, A, ca, O, co, hk, rfl, hM⟩ := hrel
    by_cases hlt : k < 6
    · have c0 := hM.lit.cell k (litC_at hlt)
      have g1 : (k : Int) < 6 := by omega
      have g2 : (0 : Int) ≤ (k : Int) := by omega
      have pk : IntKind.i64.wrap ((k : Int) + 1) = (k : Int) + 1 := by simp only [IntKind.wrap_i64]; omega
      by_cases hz : k < zs.length
      · have g3 : (k : Int) < (zs.length : Int) := by omega
        obtain ⟨b, o, e, hbl, zw⟩ := hP k _ (List.getElem?_eq_getElem hz)
        subst e
        have z0 := (hM.bel.cell (p := ⟨b, o + k, none⟩) hbl).trans zw
        have hgd : zs.getD k 0 = zs[k] := by simp [List.getD_eq_getElem?_getD, hz]
        generalize zs[k] = z at z0 zw hgd
        cases ht : mpT zs k with
        | false =>
          have hw : wi z 3 = 0 := by
            simp only [mpT, hgd] at ht
            simp [hz] at ht
            omega
          have HT := hideP ht
          have HG := hideP hgd
          clear ht hgd
          go_wp2_with fail
          refine (within_any z 3 (by omega) (by omega) _).mono ?_
          rintro e w' ⟨rfl, rfl⟩
          rw [hw]
          go_wp2_with fail
          exact ⟨⟨k + 1, A, ca, O, co, by omega, by simp, hM.skip HT.out⟩, by simp only [intOf]; omega⟩
        | true =>
          have hw : 0 < wi z 3 := by
            simp only [mpT, hgd] at ht
            simp [hz] at ht
            omega
          have HT := hideP ht
          have HG := hideP hgd
          clear ht hgd
          have hst := fun wr (hM : Mb w gr gm gl zs k A ca O co wr) => hM.step hlt HT.out
          rw [HG.out] at hst
          generalize cutsL.getD k ByteArray.empty = s at c0 hst
          have HST := hideP hst
          clear hst
          go_wp2_with fail
          refine (within_any z 3 (by omega) (by omega) _).mono ?_
          rintro e w' ⟨rfl, rfl⟩
          have hw2 : (0 : Int) < ((wi z 3 : Nat) : Int) := by omega
          generalize ((wi z 3 : Nat) : Int) = q at hw2
          clear hw
          go_wp2_with fail
          refine wp_region_any (by kernel_rfl) ?_
          change wpAny _ _ _ _ _ _ _ (World.drew _)
          have m0 := hM.below (Below.refl _ _).drew
          generalize wr.drew = v at m0 ⊢
          have s0 := sm_of m0.box m0.bel hbl zw
          obtain ⟨A1, c1, a1, ra1, xa1, ba1, O1, d1, a2, ra2, xa2, ba2, hend⟩ := HST.out v m0
          have s1 := sm_of xa1 ba1 hbl zw
          have s2 := sm_of xa2 ba2 hbl zw
          have f0 := xa2.frozen 0
          have k0 := xa2.cell 0 (v := .slice A (mapR zs k).1.length ca) rfl
          have t2 := xa2.set 0 (.slice A1 ((mapR zs k).1.length + 1) c1)
          have k1 := t2.cell 1 (v := .slice O (mapR zs k).2.length co) rfl
          have f1 := t2.frozen 1
          have HE := hideP hend
          have X0 := hideP (sm_of (m0.box.alloc (.cells #[.string s] 9)) (m0.bel.alloc m0.bel.size (.cells #[.string s] 9)) hbl zw)
          have X1 := hideP (sm_of (xa1.alloc (.cells #[.int .i64 ((wi (z.tdiv 3) 4 : Nat) : Int)] 3)) (ba1.alloc ba1.size (.cells #[.int .i64 ((wi (z.tdiv 3) 4 : Nat) : Int)] 3)) hbl zw)
          clear hend t2 c0 z0
          refine any_of_G (S := Sm gm (.slice A (mapR zs k).1.length ca) (.slice O (mapR zs k).2.length co) b (o + k) z) (p := 16) _ _ _ _ ?_
          refine anyG_move (i := 0) (oi := { dst := some 27, op := Op.fieldAddr 28 (Operand.tmp 3) 0, type := 0, pos := _, after := #[], guard := none }) (v := ?v0) rfl (by decide) (by kernel_rfl) (by kernel_rfl) (by kernel_rfl) (fun _ _ _ h => h) (fun _ => s0) (Or.inl ⟨by rfl, ?hy0⟩) ?rest0
          case hy0 => (intro w; go_simp; try with_reducible rfl)
          simp only [Act.put, List.setIfInBounds_toArray, List.set_cons_zero, List.set_cons_succ]
          refine anyG_load (i := 1) (oi := { dst := some 28, op := Op.load 25 (Operand.tmp 27), type := 25, pos := _, after := #[{ on := 0, ground := Ground.data }], guard := none }) (op := { dst := none, op := Op.store 25 (Operand.tmp 42) (Operand.tmp 31), type := 0, pos := _, after := #[{ on := 15, ground := Ground.data }, { on := 4, ground := Ground.data }, { on := 14, ground := Ground.chain }, { on := 0, ground := Ground.phase }, { on := 1, ground := Ground.phase }, { on := 2, ground := Ground.phase }, { on := 3, ground := Ground.phase }, { on := 4, ground := Ground.phase }, { on := 5, ground := Ground.phase }, { on := 6, ground := Ground.phase }, { on := 7, ground := Ground.textOnly Departure.lateStores }, { on := 8, ground := Ground.textOnly Departure.lateStores }, { on := 9, ground := Ground.textOnly Departure.lateStores }, { on := 10, ground := Ground.textOnly Departure.lateStores }, { on := 11, ground := Ground.textOnly Departure.lateStores }, { on := 12, ground := Ground.textOnly Departure.lateStoresUnsure }, { on := 13, ground := Ground.textOnly Departure.lateStores }, { on := 14, ground := Ground.textOnly Departure.lateStoresUnsure }], guard := none }) (v := ?v1) rfl rfl (by kernel_rfl) (by kernel_rfl) (by kernel_rfl) (by kernel_rfl) (fun _ _ _ h => h) (by kernel_rfl) s0 (Or.inl ⟨by rfl, ?hy1⟩) ?rest1
          case hy1 => (intro w hSw; obtain ⟨e0, e1, e2⟩ := hSw; go_simp; try with_reducible rfl)
          simp only [Act.put, List.setIfInBounds_toArray, List.set_cons_zero, List.set_cons_succ]
          refine anyG_move (i := 2) (oi := { dst := some 29, op := Op.move (Operand.tmp 5), type := 9, pos := _, after := #[], guard := none }) (v := ?v2) rfl (by decide) (by kernel_rfl) (by kernel_rfl) (by kernel_rfl) (fun _ _ _ h => h) (fun _ => s0) (Or.inl ⟨by rfl, ?hy2⟩) ?rest2
          case hy2 => (intro w; go_simp; try with_reducible rfl)
          simp only [Act.put, List.setIfInBounds_toArray, List.set_cons_zero, List.set_cons_succ]
          refine anyG_move (i := 5) (oi := { dst := some 32, op := Op.fieldAddr 28 (Operand.tmp 3) 1, type := 0, pos := _, after := #[], guard := none }) (v := ?v5) rfl (by decide) (by kernel_rfl) (by kernel_rfl) (by kernel_rfl) (fun _ _ _ h => h) (fun _ => s0) (Or.inl ⟨by rfl, ?hy5⟩) ?rest5
          case hy5 => (intro w; go_simp; try with_reducible rfl)
          simp only [Act.put, List.setIfInBounds_toArray, List.set_cons_zero, List.set_cons_succ]
          refine anyG_load (i := 6) (oi := { dst := some 33, op := Op.load 26 (Operand.tmp 32), type := 26, pos := _, after := #[{ on := 5, ground := Ground.data }], guard := none }) (op := { dst := none, op := Op.store 25 (Operand.tmp 42) (Operand.tmp 31), type := 0, pos := _, after := #[{ on := 15, ground := Ground.data }, { on := 4, ground := Ground.data }, { on := 14, ground := Ground.chain }, { on := 0, ground := Ground.phase }, { on := 1, ground := Ground.phase }, { on := 2, ground := Ground.phase }, { on := 3, ground := Ground.phase }, { on := 4, ground := Ground.phase }, { on := 5, ground := Ground.phase }, { on := 6, ground := Ground.phase }, { on := 7, ground := Ground.textOnly Departure.lateStores }, { on := 8, ground := Ground.textOnly Departure.lateStores }, { on := 9, ground := Ground.textOnly Departure.lateStores }, { on := 10, ground := Ground.textOnly Departure.lateStores }, { on := 11, ground := Ground.textOnly Departure.lateStores }, { on := 12, ground := Ground.textOnly Departure.lateStoresUnsure }, { on := 13, ground := Ground.textOnly Departure.lateStores }, { on := 14, ground := Ground.textOnly Departure.lateStoresUnsure }], guard := none }) (v := ?v6) rfl rfl (by kernel_rfl) (by kernel_rfl) (by kernel_rfl) (by kernel_rfl) (fun _ _ _ h => h) (by kernel_rfl) s0 (Or.inl ⟨by rfl, ?hy6⟩) ?rest6
          case hy6 => (intro w hSw; obtain ⟨e0, e1, e2⟩ := hSw; go_simp; try with_reducible rfl)
          simp only [Act.put, List.setIfInBounds_toArray, List.set_cons_zero, List.set_cons_succ]
          refine anyG_move (i := 7) (oi := { dst := some 34, op := Op.move (Operand.tmp 0), type := 26, pos := _, after := #[], guard := none }) (v := ?v7) rfl (by decide) (by kernel_rfl) (by kernel_rfl) (by kernel_rfl) (fun _ _ _ h => h) (fun _ => s0) (Or.inl ⟨by rfl, ?hy7⟩) ?rest7
          case hy7 => (intro w; go_simp; try with_reducible rfl)
          simp only [Act.put, List.setIfInBounds_toArray, List.set_cons_zero, List.set_cons_succ]
          refine anyG_move (i := 8) (oi := { dst := some 35, op := Op.move (Operand.tmp 4), type := 3, pos := _, after := #[], guard := none }) (v := ?v8) rfl (by decide) (by kernel_rfl) (by kernel_rfl) (by kernel_rfl) (fun _ _ _ h => h) (fun _ => s0) (Or.inl ⟨by rfl, ?hy8⟩) ?rest8
          case hy8 => (intro w; go_simp; try with_reducible rfl)
          simp only [Act.put, List.setIfInBounds_toArray, List.set_cons_zero, List.set_cons_succ]
          refine anyG_move (i := 9) (oi := { dst := some 36, op := Op.indexAddr 26 (Operand.tmp 34) (Operand.tmp 35), type := 0, pos := _, after := #[{ on := 7, ground := Ground.data }, { on := 8, ground := Ground.data }], guard := none }) (v := ?v9) rfl (by decide) (by kernel_rfl) (by kernel_rfl) (by kernel_rfl) (fun _ _ _ h => h) (fun _ => s0) (Or.inl ⟨by rfl, ?hy9⟩) ?rest9
          case hy9 => (intro w; go_simp; try with_reducible rfl)
          simp only [Act.put, List.setIfInBounds_toArray, List.set_cons_zero, List.set_cons_succ]
          refine anyG_loadB (i := 10) (oi := { dst := some 37, op := Op.load 3 (Operand.tmp 36), type := 3, pos := _, after := #[{ on := 9, ground := Ground.data }], guard := none }) (v := ?v10) [11, 12, 14, 16] rfl (by kernel_rfl) (by kernel_rfl) (by kernel_rfl) (by kernel_rfl) (by kernel_rfl) (by kernel_rfl) (fun _ _ _ h => h) s0 (Or.inl ⟨by rfl, ?hy10⟩) ?rest10
          case hy10 => (intro w hSw; obtain ⟨e0, e1, e2⟩ := hSw; go_simp; try with_reducible rfl)
          simp only [Act.put, List.setIfInBounds_toArray, List.set_cons_zero, List.set_cons_succ]
          refine anyG_move (i := 11) (oi := { dst := some 38, op := Op.binOp BinOp.quo 3 (Operand.tmp 37) (Operand.const (Value.int IntKind.i64 3)) 3, type := 3, pos := _, after := #[{ on := 10, ground := Ground.data }], guard := none }) (v := ?v11) rfl (by decide) (by kernel_rfl) (by kernel_rfl) (by kernel_rfl) (fun _ _ _ h => h) (fun _ => s0) (Or.inl ⟨by rfl, ?hy11⟩) ?rest11
          case hy11 => (intro w; go_simp; try with_reducible rfl)
          simp only [Act.put, List.setIfInBounds_toArray, List.set_cons_zero, List.set_cons_succ]
          refine anyG_one (i := 3) (o := { dst := some 30, op := Op.buildSlice 25 1 #[(0, Operand.tmp 29)], type := 25, pos := _, after := #[{ on := 2, ground := Ground.data }], guard := none }) (by kernel_rfl) rfl rfl (fun K' hK => ?_)
          go_simp
          refine hK _ _ (fun _ => X0.out) ?_
          clear hK K'
          try simp only [Act.put, List.setIfInBounds_toArray, List.set_cons_zero, List.set_cons_succ]
          refine anyG_one (i := 4) (o := { dst := some 31, op := Op.call { callee := Callee.builtin Builtin.append, args := #[Operand.tmp 28, Operand.tmp 30], argTypes := #[25, 25] }, type := 25, pos := _, after := #[{ on := 1, ground := Ground.data }, { on := 3, ground := Ground.data }], guard := none }) (by kernel_rfl) rfl rfl (fun K' hK => ?_)
          refine Lib.wp_append_run _ _ _ _ _ rfl (.slice A (mapR zs k).1.length ca) (.slice (some ⟨v.heap.size, 0, none⟩) 1 1) rfl rfl _ _ ra1 ?_
          refine hK _ _ (fun _ => s1) ?_
          clear hK K'
          try simp only [Act.put, List.setIfInBounds_toArray, List.set_cons_zero, List.set_cons_succ]
          refine anyG_move (i := 15) (oi := { dst := some 42, op := Op.fieldAddr 28 (Operand.tmp 3) 0, type := 0, pos := _, after := #[{ on := 0, ground := Ground.phase }, { on := 1, ground := Ground.phase }, { on := 2, ground := Ground.phase }, { on := 3, ground := Ground.phase }, { on := 4, ground := Ground.phase }, { on := 5, ground := Ground.phase }, { on := 6, ground := Ground.phase }, { on := 7, ground := Ground.textOnly Departure.lateStores }, { on := 8, ground := Ground.textOnly Departure.lateStores }, { on := 9, ground := Ground.textOnly Departure.lateStores }, { on := 10, ground := Ground.textOnly Departure.lateStores }, { on := 11, ground := Ground.textOnly Departure.lateStores }, { on := 12, ground := Ground.textOnly Departure.lateStoresUnsure }, { on := 13, ground := Ground.textOnly Departure.lateStores }, { on := 14, ground := Ground.textOnly Departure.lateStoresUnsure }], guard := none }) (v := ?v15) rfl (by decide) (by kernel_rfl) (by kernel_rfl) (by kernel_rfl) (fun _ _ _ h => h) (fun _ => s1) (Or.inl ⟨by rfl, ?hy15⟩) ?rest15
          case hy15 => (intro w; go_simp; try with_reducible rfl)
          simp only [Act.put, List.setIfInBounds_toArray, List.set_cons_zero, List.set_cons_succ]
          refine anyG_one (i := 12) (o := { dst := some 39, op := Op.call { callee := Callee.value (Operand.func 37), args := #[Operand.tmp 38, Operand.const (Value.int IntKind.i64 4)], argTypes := #[3, 3] }, type := 3, pos := _, after := #[{ on := 11, ground := Ground.data }, { on := 4, ground := Ground.chain }], guard := none }) (by kernel_rfl) rfl rfl (fun K' hK => ?_)
          go_simp
          refine (within_any _ 4 (by omega) (by omega) _).mono ?_
          rintro e w' ⟨rfl, rfl⟩
          rw [wi_wrap]
          simp only []
          refine hK _ _ (fun _ => s1) ?_
          clear hK K'
          try simp only [Act.put, List.setIfInBounds_toArray, List.set_cons_zero, List.set_cons_succ]
          refine anyG_one (i := 13) (o := { dst := some 40, op := Op.buildSlice 26 1 #[(0, Operand.tmp 39)], type := 26, pos := _, after := #[{ on := 12, ground := Ground.data }], guard := none }) (by kernel_rfl) rfl rfl (fun K' hK => ?_)
          go_simp
          refine hK _ _ (fun _ => X1.out) ?_
          clear hK K'
          try simp only [Act.put, List.setIfInBounds_toArray, List.set_cons_zero, List.set_cons_succ]
          refine anyG_one (i := 14) (o := { dst := some 41, op := Op.call { callee := Callee.builtin Builtin.append, args := #[Operand.tmp 33, Operand.tmp 40], argTypes := #[26, 26] }, type := 26, pos := _, after := #[{ on := 6, ground := Ground.data }, { on := 13, ground := Ground.data }, { on := 12, ground := Ground.chain }], guard := none }) (by kernel_rfl) rfl rfl (fun K' hK => ?_)
          refine Lib.wp_append_run _ _ _ _ _ rfl (.slice O (mapR zs k).2.length co) (.slice (some ⟨a1.heap.size, 0, none⟩) 1 1) rfl rfl _ _ ra2 ?_
          refine hK _ _ (fun _ => s2) ?_
          clear hK K'
          try simp only [Act.put, List.setIfInBounds_toArray, List.set_cons_zero, List.set_cons_succ]
          refine anyG_one (i := 16) (o := { dst := none, op := Op.store 25 (Operand.tmp 42) (Operand.tmp 31), type := 0, pos := _, after := #[{ on := 15, ground := Ground.data }, { on := 4, ground := Ground.data }, { on := 14, ground := Ground.chain }, { on := 0, ground := Ground.phase }, { on := 1, ground := Ground.phase }, { on := 2, ground := Ground.phase }, { on := 3, ground := Ground.phase }, { on := 4, ground := Ground.phase }, { on := 5, ground := Ground.phase }, { on := 6, ground := Ground.phase }, { on := 7, ground := Ground.textOnly Departure.lateStores }, { on := 8, ground := Ground.textOnly Departure.lateStores }, { on := 9, ground := Ground.textOnly Departure.lateStores }, { on := 10, ground := Ground.textOnly Departure.lateStores }, { on := 11, ground := Ground.textOnly Departure.lateStores }, { on := 12, ground := Ground.textOnly Departure.lateStoresUnsure }, { on := 13, ground := Ground.textOnly Departure.lateStores }, { on := 14, ground := Ground.textOnly Departure.lateStoresUnsure }], guard := none }) (by kernel_rfl) rfl rfl (fun K' hK => ?_)
          go_simp
          refine hK _ _ (fun h => tf_no (by kernel_rfl) h) ?_
          clear hK K'
          try simp only [Act.put, List.setIfInBounds_toArray, List.set_cons_zero, List.set_cons_succ]
          refine anyG_one (i := 17) (o := { dst := some 43, op := Op.fieldAddr 28 (Operand.tmp 3) 1, type := 0, pos := _, after := #[{ on := 0, ground := Ground.phase }, { on := 1, ground := Ground.phase }, { on := 2, ground := Ground.phase }, { on := 3, ground := Ground.phase }, { on := 4, ground := Ground.phase }, { on := 5, ground := Ground.phase }, { on := 6, ground := Ground.phase }, { on := 7, ground := Ground.phase }, { on := 8, ground := Ground.phase }, { on := 9, ground := Ground.phase }, { on := 10, ground := Ground.phase }, { on := 11, ground := Ground.phase }, { on := 12, ground := Ground.phase }, { on := 13, ground := Ground.phase }, { on := 14, ground := Ground.phase }, { on := 15, ground := Ground.phase }, { on := 16, ground := Ground.phase }], guard := none }) (by kernel_rfl) rfl rfl (fun K' hK => ?_)
          go_simp
          refine hK _ _ (fun h => tf_no (by kernel_rfl) h) ?_
          clear hK K'
          try simp only [Act.put, List.setIfInBounds_toArray, List.set_cons_zero, List.set_cons_succ]
          refine anyG_one (i := 18) (o := { dst := none, op := Op.store 26 (Operand.tmp 43) (Operand.tmp 41), type := 0, pos := _, after := #[{ on := 17, ground := Ground.data }, { on := 14, ground := Ground.data }, { on := 16, ground := Ground.chain }, { on := 0, ground := Ground.phase }, { on := 1, ground := Ground.phase }, { on := 2, ground := Ground.phase }, { on := 3, ground := Ground.phase }, { on := 4, ground := Ground.phase }, { on := 5, ground := Ground.phase }, { on := 6, ground := Ground.phase }, { on := 7, ground := Ground.phase }, { on := 8, ground := Ground.phase }, { on := 9, ground := Ground.phase }, { on := 10, ground := Ground.phase }, { on := 11, ground := Ground.phase }, { on := 12, ground := Ground.phase }, { on := 13, ground := Ground.phase }, { on := 14, ground := Ground.phase }, { on := 15, ground := Ground.phase }, { on := 16, ground := Ground.phase }], guard := none }) (by kernel_rfl) rfl rfl (fun K' hK => ?_)
          go_simp
          refine hK _ _ (fun h => tf_no (by kernel_rfl) h) ?_
          clear hK K'
          try simp only [Act.put, List.setIfInBounds_toArray, List.set_cons_zero, List.set_cons_succ]
          refine anyG_done (by kernel_rfl) ?_ _
          go_wp2_with fail
          exact ⟨⟨k + 1, A1, c1, O1, d1, by omega, by simp, HE.out⟩, by simp only [intOf]; omega⟩
      · have ht : mpT zs k = false := by simp [mpT, hz]
        have g3 : ¬ (k : Int) < (zs.length : Int) := by omega
        go_wp2_with fail
        exact ⟨⟨k + 1, A, ca, O, co, by omega, by simp, hM.skip ht⟩, by simp only [intOf]; omega⟩
    · have hk6 : k = 6 := by omega
      subst hk6
      have c0 := hM.box.cell 0 rfl
      have c1 := hM.box.cell 1 rfl
      have f0 := hM.res.frozen 0
      have f1 := (hM.res.set 0 (.slice A (mapR zs 6).1.length ca)).frozen 1
      have d0 := hM.res.cell 0 rfl
      have d1 := (hM.res.set 0 (.slice A (mapR zs 6).1.length ca)).cell 1 (v := .slice none 0 0) rfl
      have r := (hM.res.set 0 (.slice A (mapR zs 6).1.length ca)).set 1 (.slice O (mapR zs 6).2.length co)
      have q0 := r.cell 0 (v := .slice A (mapR zs 6).1.length ca) rfl
      have q1 := r.cell 1 (v := .slice O (mapR zs 6).2.length co) rfl
      have HF := hideP (hM.fin (.slice A (mapR zs 6).1.length ca) (.slice O (mapR zs 6).2.length co))
      clear r
      go_wp2_with fail
      exact bodyPost_ret (v := .agg #[.slice A (mapR zs 6).1.length ca, .slice O (mapR zs 6).2.length co]) (by simp [results, Tryz.results51, go_sem, q0, q1]) rfl ⟨A, ca, O, co, rfl, HF.out.1, HF.out.2.1, HF.out.2.2⟩
end Go.Proofs.YtmepmiokpcddbabGreatDoor
