/-
  (*parts.Parts).Who.
  (*parts.Parts).Part.
  rokeep.MapOwn: what its end needs: Parts that took another map; Parts beside a spoilt row.
  What the laws over partition maps have in common: rokeep.Map in other words, shardBegun, boxes of maps.
  What the laws over partitioned stores have in common.
-/
import Derived.Test.YtmepmiokpcddbabGreatDoorCb8
import Derived.Test.YtmepmiokpcddbabGreatDoorCb32
import Derived.Test.YtmepmiokpcddbabGreatDoorCb10
import Derived.Test.YtmepmiokpcddbabGreatDoorCb5
import Derived.Test.YtmepmiokpcddbabGreatDoorCb17
import Derived.Test.YtmepmiokpcddbabGreatDoorCb31
import Derived.Test.YtmepmiokpcddbabGreatDoorCb3
import Derived.Test.YtmepmiokpcddbabGreatDoorCb18
set_option linter.unusedVariables false
set_option linter.unusedSimpArgs false
namespace Go.Proofs.YtmepmiokpcddbabGreatDoor
open Go.RowKit

/-- while the owners are gathered -/
def WhoI (w : World) (m : Mp) (d : List Opr) (As : Option Addr) (cs' : Nat) (v i : Value) (wr : World) : Prop :=
  ∃ (k : Nat) (A : Option Addr) (c : Nat) (zs : List Int), k ≤ (nmL d).length ∧ i = .int .i64 k ∧ v = .slice A zs.length c ∧ zs = ((nmL d).take k).map (whV m.cs m.os) ∧ OR wr w.heap.size 3 A c (zs.map encN) ∧ OR wr w.heap.size 9 As cs' ((nmL d).map Value.string) ∧ Below w.heap.size w wr

set_option maxHeartbeats 2000000 in
set_option maxRecDepth 100000 in
theorem who_ok (B g : Nat) (m : Mp) (l : List Pr) (q : Dv) (D : Option Addr) (cd : Nat) (d : List Opr) (w : World) (h : PB w B g m l q) (hD : OS w w.heap.size D d) (hd : chkD d = 0) :
    Calls Tryz.prog 54 #[.pointer (some ⟨g, 0, none⟩), .agg #[.slice D d.length cd]] w
      fun e w' => ∃ A c, e = .returned (.tuple #[.slice A (whoL m.cs m.os d).length c, .int .i64 0]) ∧ OR w' w.heap.size 3 A c ((whoL m.cs m.os d).map encN) ∧ Below w.heap.size w w' := by
  have hb0 := (Below.refl w.heap.size w).alloc (Nat.le_refl _) (.cells #[.slice D d.length cd] 24)
  have y := (Box.new w 24 #[.slice D d.length cd]).cell 0 (v := .slice D d.length cd) rfl
  have hD0 := hD.go hb0
  have hd8 := (chkD_zero.1 hd).2.1
  have hnl := nmL_len d
  have hkey := names_key hd
  go_enter Tryz.func54, Tryz.ntmps54
  go_wp2_with fail
  generalize w.alloc _ = w1 at hb0 hD0 y ⊢
  refine (keys_ok D cd d _ hD0 hd).mono ?_
  rintro e w2 ⟨A1, c1, A2, c2, rfl, hT, hb2⟩
  have hb2' := hb0.trans (hb2.mono hb0.size)
  have HCA := hideP (sconcat2 w2 w2.heap.size rfl A1 A2 (keysOf (rdL d)).length (keysOf (wrL d)).length c1 c2 _ _ rfl rfl hT.o1.vs hT.o2.vs (by rw [show (keysOf (rdL d)).length + (keysOf (wrL d)).length = (nmL d).length by unfold nmL; rw [List.length_append]]; omega))
  rw [show keysOf (rdL d) ++ keysOf (wrL d) = nmL d from rfl] at HCA
  generalize (keysOf (rdL d)).length = n1 at HCA ⊢
  generalize (keysOf (wrL d)).length = n2 at HCA ⊢
  clear hb0 hb2 hT hD0 hD y
  go_wp2_with fail
  refine HCA.out.mono ?_
  rintro e w3 ⟨As, cs', rfl, hs, hb3⟩
  have hs3 := hs.mono hb2'.size
  have hb3' := hb2'.trans (hb3.mono hb2'.size)
  clear HCA hs hb2' hb3
  go_wp2_with fail
  go_loopw [9, 28] (WhoI w m d As cs') (fun _ i _ => (nmL d).length - (intOf i).toNat)
  case atStart => exact ⟨0, none, 0, [], Nat.zero_le _, rfl, rfl, rfl, OR.nil _ _ _, hs3, hb3'⟩
  case round =>
    obtain ⟨k, A, c, zs, hk, rfl, rfl, hzs, ho, hs, hb⟩ := hrel
    have hzl : zs.length = k := by rw [hzs, List.length_map, List.length_take]; omega
    by_cases hlt : k < (nmL d).length
    · obtain ⟨b, o, rfl, hbl, q1⟩ := hs.vs k (.string (nmL d)[k]) (by simp [hlt])
      have hkk := hkey _ (List.getElem_mem hlt)
      have hw := h.below hb
      have HF := hideP (fun (W : World) (hW : Below w.heap.size w W) => shfind_any m (nmL d)[k] W (h.below hW).mo.ms h.okm.l2)
      rw [findV_ok (chkM_ok.2 h.okm) hkk] at HF
      have HT := hideP (show zs ++ [whV m.cs m.os (nmL d)[k]] = ((nmL d).take (k + 1)).map (whV m.cs m.os) by rw [hzs, List.take_succ_eq_append_getElem hlt, List.map_append]; rfl)
      generalize (nmL d)[k] = key at q1 hkk HF HT
      generalize whV m.cs m.os key = z at HF HT
      have z1 := hw.c0
      have z2 := hw.c1
      have HZ := hideP hzl
      clear hzs hw hs3 hb3' hzl
      go_wp2_with fail
      refine (HF.out _ hb).mono ?_
      rintro e w4 ⟨rfl, hb4⟩
      replace ho := ho.below hb4
      replace hs := hs.below hb4
      have hb5 := hb.trans (hb4.mono hb.size)
      simp only
      obtain ⟨A', c', w6, hrun, ho6, hbl6, hg6, _⟩ := app_row (P := Tryz.prog) Tryz.underlying26 intInfo rfl w4 w.heap.size 26 A c _ ho [.int .i64 z] (by simp [Value.oneCell']) (by rw [List.length_map, HZ.out]; simp only [List.length_singleton]; omega) (by decide) hb5.size
      have hb6 := hbl6 w.heap.size w (Nat.le_refl _) hb5
      have hX : zs.map encN ++ [Value.int .i64 z] = (zs ++ [z]).map encN := by simp
      rw [hX] at hrun ho6
      rw [List.length_map, List.length_map] at hrun
      have hs6 := OR.below hs ((Below.refl w4.heap.size w4).alloc (Nat.le_refl _) (.cells #[.int .i64 z] 3))
      replace hs6 : OR w6 w.heap.size 9 _ cs' _ := World.ownsRow.kept hs6 hg6 (rows_ne hs6 (ho.below ((Below.refl w4.heap.size w4).alloc (Nat.le_refl _) (.cells #[.int .i64 z] 3))) (by decide))
      have HR := hideP hrun
      clear hrun hX ho hs hbl6 hg6 hb4 HF z1 z2
      go_wp2_with (at_builtin; refine Lib.wpList_append_run _ rfl _ _ _ _ rfl _ _ rfl rfl _ _ HR.out ?_)
      go_roundw
      case rel => exact ⟨k + 1, A', c', zs ++ [z], by omega, by go_num, by simp, HT.out, ho6, hs6, hb6⟩
      case measure => simp [intOf]; omega
    · have hfull : zs = (nmL d).map (whV m.cs m.os) := by rw [hzs, List.take_of_length_le (by omega)]
      have HW := hideP (show Lib.compact (zs.mergeSort fun x y => decide (x ≤ y)) = whoL m.cs m.os d by rw [hfull]; rfl)
      have hzm : (zs.mergeSort fun x y => decide (x ≤ y)).length = zs.length := by simp
      have HZM := hideP hzm
      have hz3 : zs.length ≤ 1000 := by omega
      clear hzs hfull hs3 hb3' hzm hs hzl
      go_wp2_with fail
      refine (isort_any w.heap.size A c zs _ ho hz3).mono ?_
      rintro e w5 ⟨rfl, ho5, hg5⟩
      have hb5 : Below w.heap.size w w5 := hb.grown hg5 hb.size (fun j hj => (World.ownsRow.lt ho j (by rw [ownBlock_slice]; exact hj)).1)
      have HCO := hideP (icompact_any w.heap.size A c _ w5 ho5 (by rw [HZM.out]; exact hz3))
      rw [HZM.out, HW.out] at HCO
      clear HW HZM ho hg5 hb
      go_wp2_with fail
      refine HCO.out.mono ?_
      rintro e w6 ⟨rfl, ho6, hg6⟩
      have hb6 : Below w.heap.size w w6 := hb5.grown hg6 hb5.size (fun j hj => (World.ownsRow.lt ho5 j (by rw [ownBlock_slice]; exact hj)).1)
      clear HCO ho5 hg6 hb5
      go_wp2_with fail
      go_ret2
      exact ⟨A, c, rfl, ho6, hb6⟩
end Go.Proofs.YtmepmiokpcddbabGreatDoor

set_option linter.unusedVariables false
set_option linter.unusedSimpArgs false
namespace Go.Proofs.YtmepmiokpcddbabGreatDoor
open Go.RowKit

set_option maxHeartbeats 400000 in
set_option maxRecDepth 100000 in
theorem ppart_ok (B g : Nat) (m : Mp) (l : List Pr) (q : Dv) (k : Nat) (w : World) (h : PB w B g m l q) (hk : k < 4) :
    Calls Tryz.prog 60 #[.pointer (some ⟨g, 0, none⟩), .int .i64 k] w fun e w' => ∃ A c, e = .returned (.tuple #[.slice A (ptL m.cs m.os (k : Int) l).length c, .int .i64 0]) ∧ OV w' w.heap.size A c (ptL m.cs m.os (k : Int) l) ∧ Below w.heap.size w w' := by
  have p0 : w.cell? ⟨g, 2 + k, none⟩ = some (.slice (q.A k) (ptL m.cs m.os (k : Int) l).length (q.c k)) := h.p hk
  have hsm := h.ok.small
  have hp : (ptL m.cs m.os (k : Int) l).length ≤ l.length := List.length_filter_le _ _
  have HC : Hid (Calls Tryz.prog 102 #[.slice (some ⟨w.heap.size, 0, none⟩) 1 1] (w.alloc (.cells #[.slice (q.A k) (ptL m.cs m.os (k : Int) l).length (q.c k)] 58)) fun e w' => ∃ A c, e = .returned (.slice A (ptL m.cs m.os (k : Int) l).length c) ∧ OV w' w.heap.size A c (ptL m.cs m.os (k : Int) l) ∧ Below w.heap.size w w') := hideP (by
    have hb := (Below.refl w.heap.size w).alloc (Nat.le_refl _) (.cells #[.slice (q.A k) (ptL m.cs m.os (k : Int) l).length (q.c k)] 58)
    refine (concat1 w w.heap.size rfl (q.A k) _ (q.c k) _ rfl (h.own k hk).sv.ps (by omega)).mono ?_
    rintro e w1 ⟨v, rfl, hrow, hb1⟩
    obtain ⟨A1, c1, rfl, ho⟩ := OV.of_own hrow
    exact ⟨A1, c1, rfl, ho.mono hb.size, hb.trans (hb1.mono hb.size)⟩)
  have g0 : (0 : Int) ≤ (k : Int) := by omega
  have g1 : (k : Int) < 4 := by omega
  generalize ptL m.cs m.os (k : Int) l = pt at p0 HC
  clear h hsm hp
  go_enter Tryz.func60, Tryz.ntmps60
  go_wp2_with fail
  refine HC.out.mono ?_
  rintro e w1 ⟨A1, c1, rfl, ho, hb⟩
  go_wp2_with fail
  go_ret2
  exact ⟨A1, c1, rfl, ho, hb⟩
set_option maxHeartbeats 400000 in
set_option maxRecDepth 100000 in
theorem ppart_bad (g : Nat) (i : Int) (w : World) (hk : i < 0 ∨ 4 ≤ i) :
    Calls Tryz.prog 60 #[.pointer (some ⟨g, 0, none⟩), .int .i64 i] w fun e w' => e = .returned (.tuple #[.slice none 0 0, .int .i64 1]) ∧ w = w' := by
  by_cases h : i < 0
  · go_enter Tryz.func60, Tryz.ntmps60
    go_wp2_with fail
    go_ret2
    exact ⟨rfl, rfl⟩
  · have h4 : 4 ≤ i := by omega
    go_enter Tryz.func60, Tryz.ntmps60
    go_wp2_with fail
    go_ret2
    exact ⟨rfl, rfl⟩
end Go.Proofs.YtmepmiokpcddbabGreatDoor

set_option linter.unusedVariables false
set_option linter.unusedSimpArgs false
namespace Go.Proofs.YtmepmiokpcddbabGreatDoor
open Go.RowKit
section
variable {w W W' : World} {n mp mq mr : Mp} {gp gq gn gt gTS gTI cd : Nat} {lp lq l' : List Pr} {qp qq q' : Dv} {Ad : Option Addr} {ds : List Dl}
theorem MoF.pm (h : MoF w n gp gq gn gt gTS gTI mp mq lp lq qp qq Ad cd ds W) (hp : PB W' w.heap.size gp mr l' q') (hg : W.grownBy W' (some gp)) : MoF w n gp gq gn gt gTS gTI mr mq l' lq q' qq Ad cd ds W' :=
  ⟨hp, h.q.kept (fun e => h.ne e.symm) h.p.box.ty (by decide) (by decide) (by decide) hg, h.ne, h.t.kept_ h.p.box.ty (by decide) (by decide) (by decide) hg, h.n.kept h.p.box.ty h.p.low hg, h.d.kept h.p.box.ty (by decide) (by decide) hg⟩
theorem MoF.qm (h : MoF w n gp gq gn gt gTS gTI mp mq lp lq qp qq Ad cd ds W) (hq : PB W' w.heap.size gq mr l' q') (hg : W.grownBy W' (some gq)) : MoF w n gp gq gn gt gTS gTI mp mr lp l' qp q' Ad cd ds W' :=
  ⟨h.p.kept h.ne h.q.box.ty (by decide) (by decide) (by decide) hg, hq, h.ne, h.t.kept_ h.q.box.ty (by decide) (by decide) (by decide) hg, h.n.kept h.q.box.ty h.q.low hg, h.d.kept h.q.box.ty (by decide) (by decide) hg⟩
/-- a change of blocks that are none of theirs leaves Parts -/
theorem PB.off {F : Nat → Prop} {B g : Nat} {m : Mp} {l : List Pr} {q : Dv} (h : PB W B g m l q) (hf : Fr F W W') (hg : ¬ F g) (hA : ∀ j, blk m.A = some j → ¬ F j) (hO : ∀ j, blk m.O = some j → ¬ F j) (hP : ∀ k, Ty W k 65 → ¬ F k) : PB W' B g m l q :=
  ⟨hf.box h.box hg, ⟨hf.own h.mo.cuts fun j hj => by rw [ownBlock_slice] at hj; exact hA j hj, hf.own h.mo.own fun j hj => by rw [ownBlock_slice] at hj; exact hO j hj⟩, fun j hj => hf.own (h.own j hj) fun k hk => hP k (own_ty (h.own j hj) hk), h.okm, h.ok, h.low⟩
/-- rows that lie above two blocks -/
theorem rows_new {A O : Option Addr} {N x y : Nat} (h : ∀ a, O = some a ∨ A = some a → N ≤ a.block) (hx : x < N) (hy : y < N) : (∀ j, blk A = some j → j ≠ x ∧ j ≠ y) ∧ (∀ j, blk O = some j → j ≠ x ∧ j ≠ y) := by
  refine ⟨fun j e => ?_, fun j e => ?_⟩
  · cases A with
    | none => cases e
    | some a => injection e with e; have e2 : a.block = j := e; have := h a (.inr rfl); omega
  · cases O with
    | none => cases e
    | some a => injection e with e; have e2 : a.block = j := e; have := h a (.inl rfl); omega
/-- one block is spoilt, which is none of the Parts' -/
theorem PB.one {B g k : Nat} {m : Mp} {l : List Pr} {q : Dv} {t : TypeId} (h : PB W B g m l q) (hg : W.grownBy W' (some k)) (ht : Ty W k t) (h1 : 141 ≠ t) (h2 : 65 ≠ t) (hA : ∀ j, blk m.A = some j → j ≠ k) (hO : ∀ j, blk m.O = some j → j ≠ k) : PB W' B g m l q :=
  h.off (Fr.of_grown (F := fun j => j = k) hg (fun j e => by injection e with e; exact e.symm)) (fun e => h1 (by rw [← e] at ht; exact h.box.ty.inj ht)) (fun j e => hA j e) (fun j e => hO j e) (fun j hj e => h2 (by rw [← e] at ht; exact hj.inj ht))
end
end Go.Proofs.YtmepmiokpcddbabGreatDoor

set_option linter.unusedVariables false
set_option linter.unusedSimpArgs false
namespace Go.Proofs.YtmepmiokpcddbabGreatDoor
open Go.RowKit

theorem findV_begun : findV [⟨#[109]⟩] [0, 3] ⟨#[109]⟩ = (3, 0) := by decide +kernel

set_option maxHeartbeats 400000 in
set_option maxRecDepth 100000 in
theorem shbegun_any (w : World) : Calls Tryz.prog 28 #[] w fun e w' => e = .returned (.bool true) ∧ Below w.heap.size w w' := by
  have b0 := ((Below.refl w.heap.size w).alloc (Nat.le_refl _) (.cells #[.string ⟨#[109]⟩] 9)).alloc (by simp) (.cells #[.int .i64 0, .int .i64 3] 3)
  have x0 := (Box.new w 9 #[.string ⟨#[109]⟩]).alloc (.cells #[.int .i64 0, .int .i64 3] 3)
  have x1 := Box.new (w.alloc (.cells #[.string ⟨#[109]⟩] 9)) 3 #[.int .i64 0, .int .i64 3]
  simp only [World.size_alloc] at x1
  have hm : MS ((w.alloc (.cells #[.string ⟨#[109]⟩] 9)).alloc (.cells #[.int .i64 0, .int .i64 3] 3)) ⟨some ⟨w.heap.size, 0, none⟩, 1, [⟨#[109]⟩], some ⟨w.heap.size + 1, 0, none⟩, 2, [0, 3]⟩ :=
    ⟨VS.of_box x0, VS.is_int (l := [0, 3]) (VS.of_box x1), by simp, by simp, by simp [maxLen], by simp [maxLen], (fun e => by cases e), (fun e => by cases e)⟩
  have HF := hideP (shfind_any _ ⟨#[109]⟩ _ hm (by simp))
  rw [show findV (⟨some ⟨w.heap.size, 0, none⟩, 1, [⟨#[109]⟩], some ⟨w.heap.size + 1, 0, none⟩, 2, [0, 3]⟩ : Mp).cs (⟨some ⟨w.heap.size, 0, none⟩, 1, [⟨#[109]⟩], some ⟨w.heap.size + 1, 0, none⟩, 2, [0, 3]⟩ : Mp).os ⟨#[109]⟩ = (3, 0) from findV_begun] at HF
  clear x0 x1 hm
  go_enter Tryz.func28, Tryz.ntmps28
  go_wp2_with fail
  refine HF.out.mono ?_
  rintro e w2 ⟨rfl, hb2⟩
  have hb3 := b0.trans (hb2.mono b0.size)
  clear HF
  go_wp2_with fail
  go_ret
  exact ⟨rfl, hb3⟩
end Go.Proofs.YtmepmiokpcddbabGreatDoor

set_option linter.unusedVariables false
set_option linter.unusedSimpArgs false
namespace Go.Proofs.YtmepmiokpcddbabGreatDoor
open Go.RowKit

theorem begun_ok : OkM [⟨#[109]⟩] [0, 1] := chkM_ok.1 (by decide +kernel)
theorem begun_st : Ok [((⟨#[97]⟩ : ByteArray), (1 : Int)), (⟨#[122]⟩, 2)] := chk_ok.1 (by decide +kernel)
theorem begun_pt : (ptL [⟨#[109]⟩] [0, 1] ((1 : Nat) : Int) [((⟨#[97]⟩ : ByteArray), (1 : Int)), (⟨#[122]⟩, 2)]).length = 1 := by decide +kernel

set_option maxHeartbeats 1000000 in
set_option maxRecDepth 100000 in
theorem ptbegun_any (w : World) : Calls Tryz.prog 29 #[] w fun e w' => e = .returned (.bool true) ∧ Below w.heap.size w w' := by
  have b0 := (((Below.refl w.heap.size w).alloc (Nat.le_refl _) (.cells #[.string ⟨#[109]⟩] 9)).alloc (by simp) (.cells #[.int .i64 0, .int .i64 1] 3)).alloc (by simp; omega) (.cells #[.string ⟨#[97]⟩, .int .i64 1, .string ⟨#[122]⟩, .int .i64 2] 65)
  have x0 := ((Box.new w 9 #[.string ⟨#[109]⟩]).alloc (.cells #[.int .i64 0, .int .i64 1] 3)).alloc (.cells #[.string ⟨#[97]⟩, .int .i64 1, .string ⟨#[122]⟩, .int .i64 2] 65)
  have x1 := (Box.new (w.alloc (.cells #[.string ⟨#[109]⟩] 9)) 3 #[.int .i64 0, .int .i64 1]).alloc (.cells #[.string ⟨#[97]⟩, .int .i64 1, .string ⟨#[122]⟩, .int .i64 2] 65)
  have x2 := Box.new ((w.alloc (.cells #[.string ⟨#[109]⟩] 9)).alloc (.cells #[.int .i64 0, .int .i64 1] 3)) 65 #[.string ⟨#[97]⟩, .int .i64 1, .string ⟨#[122]⟩, .int .i64 2]
  simp only [World.size_alloc] at x1 x2
  generalize hW : ((w.alloc (.cells #[.string ⟨#[109]⟩] 9)).alloc (.cells #[.int .i64 0, .int .i64 1] 3)).alloc (.cells #[.string ⟨#[97]⟩, .int .i64 1, .string ⟨#[122]⟩, .int .i64 2] 65) = w3 at b0 x0 x1 x2
  have hm : MS w3 ⟨some ⟨w.heap.size, 0, none⟩, 1, [⟨#[109]⟩], some ⟨w.heap.size + 1, 0, none⟩, 2, [0, 1]⟩ :=
    ⟨VS.of_box x0, VS.is_int (l := [0, 1]) (VS.of_box x1), by simp, by simp, by simp [maxLen], by simp [maxLen], (fun e => by cases e), (fun e => by cases e)⟩
  have hps : PS w3 w3.heap.size (some ⟨w.heap.size + 1 + 1, 0, none⟩) [((⟨#[97]⟩ : ByteArray), (1 : Int)), (⟨#[122]⟩, 2)] := fun i p hp => by
    match i with
    | 0 => simp at hp; subst hp; exact ⟨_, _, rfl, x2.lt, x2.cell 0 rfl, x2.cell 1 rfl⟩
    | 1 => simp at hp; subst hp; exact ⟨_, _, rfl, x2.lt, x2.cell 2 rfl, x2.cell 3 rfl⟩
    | i + 2 => simp at hp
  have HF := hideP (new_ok _ _ 2 _ w3 hm hps begun_ok begun_st)
  clear hm hps x0 x1 x2
  go_enter Tryz.func29, Tryz.ntmps29
  go_wp2_with fail
  refine HF.out.mono ?_
  rintro e w4 ⟨g, A, ca, O, co, q, rfl, hP, hb4⟩
  have hb5 := b0.trans (hb4.mono b0.size)
  have HPT := hideP (ppart_ok _ g _ _ q 1 w4 hP (by omega))
  simp only [begun_pt] at HPT
  clear HF hP hb4 b0 hW
  go_wp2_with fail
  refine HPT.out.mono ?_
  rintro e w6 ⟨A6, c6, rfl, _, hb6⟩
  have hb7 := hb5.trans (hb6.mono hb5.size)
  clear HPT
  go_wp2_with fail
  go_ret
  exact ⟨rfl, hb7⟩
end Go.Proofs.YtmepmiokpcddbabGreatDoor
