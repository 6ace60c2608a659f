/-
  shard.Give.
  slices.Index and slices.Contains at strings.
  Cells of blocks that are made (no program in it).
  shard.Cut.
-/
import Derived.Test.YtmepmiokpcddbabGreatDoorCb11
import Derived.Test.YtmepmiokpcddbabGreatDoorCb12
import Derived.Test.YtmepmiokpcddbabGreatDoorCb2
import Derived.WalkKit
import Derived.WalkSpells
import Derived.WalkLawsBesides
import Derived.Test.YtmepmiokpcddbabGreatDoorCb3
import Derived.Deep.RegionHeld3
set_option linter.unusedVariables false
set_option linter.unusedSimpArgs false
namespace Go.Proofs.YtmepmiokpcddbabGreatDoor
open Go.RowKit

/-- what Give answers -/
def giveV (cs : List ByteArray) (os : List Int) (i n : Int) : (List ByteArray × List Int) × Int :=
  if chkM cs os ≠ 0 then (([], []), chkM cs os) else if i < 0 ∨ (os.length : Int) ≤ i ∨ ownB n = false then (([], []), 1) else ((cs, os.set i.toNat n), 0)
theorem giveV_bad {cs : List ByteArray} {os : List Int} {i n : Int} (h : chkM cs os ≠ 0) : giveV cs os i n = (([], []), chkM cs os) := by unfold giveV; rw [if_pos h]
theorem giveV_arg {cs : List ByteArray} {os : List Int} {i n : Int} (h : chkM cs os = 0) (k : i < 0 ∨ (os.length : Int) ≤ i ∨ ownB n = false) : giveV cs os i n = (([], []), 1) := by unfold giveV; rw [if_neg (by simp [h]), if_pos k]
theorem giveV_ok {cs : List ByteArray} {os : List Int} {i n : Int} (h : chkM cs os = 0) (k : ¬ (i < 0 ∨ (os.length : Int) ≤ i ∨ ownB n = false)) : giveV cs os i n = ((cs, os.set i.toNat n), 0) := by unfold giveV; rw [if_neg (by simp [h]), if_neg k]

set_option maxHeartbeats 2000000 in
set_option maxRecDepth 100000 in
theorem shgive_any (m : Mp) (i n : Int) (w : World) (hm : MS w m) (l2 : m.os.length ≤ 9223372036854775807) :
    Calls Tryz.prog 36 #[.agg #[.slice m.A m.cs.length m.ca, .slice m.O m.os.length m.co], .int .i64 i, .int .i64 n] w (RetMr w (giveV m.cs m.os i n)) := by
  have hH := RH.new hm
  go_enter Tryz.func36, Tryz.ntmps36
  obtain ⟨z1, z2⟩ := hH.mh.c
  go_wp2_with fail
  generalize (w.alloc _).alloc _ = w1 at hH z1 z2 ⊢
  generalize hg : w.heap.size = g at hH z1 z2 ⊢
  clear hg
  refine (shcheck_any m _ hH.mh.ms l2).mono ?_
  rintro e w2 ⟨rfl, hb2⟩
  replace hH := hH.below hb2
  clear hb2 z1 z2
  by_cases hc : chkM m.cs m.os = 0
  · have hok := chkM_ok.1 hc
    have hfew := hok.few
    have hlen := hok.len
    have HC := hideP hc
    have HL := hideP hlen
    rw [hc]
    clear hc hok
    obtain ⟨z1, z2⟩ := hH.mh.c
    by_cases hi : i < 0
    · have HV := hideP (giveV_arg (n := n) HC.out (.inl hi))
      obtain ⟨f0, f1, d0, d1, q0, q1, hfin⟩ := hH.re
      have HF := hideP hfin
      clear hfin hlen
      go_wp2_with fail
      exact bodyPost_ret (v := .tuple #[.agg #[.slice none 0 0, .slice none 0 0], .int .i64 1]) (by simp [results, Tryz.results36, go_sem, q0, q1]) rfl ⟨noM, by rw [HV.out]; rfl, by rw [HV.out]; rfl, by rw [HV.out]; rfl, HF.out.1, HF.out.2⟩
    have gi : (decide (i < 0)) = false := by simp; omega
    by_cases hj : (m.os.length : Int) ≤ i
    · have HV := hideP (giveV_arg (n := n) HC.out (.inr (.inl hj)))
      obtain ⟨f0, f1, d0, d1, q0, q1, hfin⟩ := hH.re
      have HF := hideP hfin
      clear hfin hlen
      go_wp2_with fail
      exact bodyPost_ret (v := .tuple #[.agg #[.slice none 0 0, .slice none 0 0], .int .i64 1]) (by simp [results, Tryz.results36, go_sem, q0, q1]) rfl ⟨noM, by rw [HV.out]; rfl, by rw [HV.out]; rfl, by rw [HV.out]; rfl, HF.out.1, HF.out.2⟩
    have gj : (decide ((m.os.length : Int) ≤ i)) = false := by simp; omega
    clear hlen
    go_wp2_with fail
    refine (isown_any n _).mono ?_
    rintro e w3 ⟨rfl, rfl⟩
    cases hn : ownB n
    · have HV := hideP (giveV_arg (i := i) HC.out (.inr (.inr hn)))
      obtain ⟨f0, f1, d0, d1, q0, q1, hfin⟩ := hH.re
      have HF := hideP hfin
      clear hfin hn
      go_wp2_with fail
      exact bodyPost_ret (v := .tuple #[.agg #[.slice none 0 0, .slice none 0 0], .int .i64 1]) (by simp [results, Tryz.results36, go_sem, q0, q1]) rfl ⟨noM, by rw [HV.out]; rfl, by rw [HV.out]; rfl, by rw [HV.out]; rfl, HF.out.1, HF.out.2⟩
    · have HV := hideP (giveV_ok HC.out (show ¬ (i < 0 ∨ (m.os.length : Int) ≤ i ∨ ownB n = false) by rw [hn]; simp; omega))
      clear hn
      obtain ⟨k, rfl⟩ : ∃ k : Nat, i = (k : Int) := ⟨i.toNat, by omega⟩
      have hkl : k < m.os.length := by omega
      rw [Int.toNat_natCast] at HV
      have hcat := iconcat1 w2 w2.heap.size rfl m.O m.os.length m.co m.os rfl hH.mh.ms.own.vs (by have := HL.out; omega)
      have HCAT := hideP hcat
      clear hcat hi hj gi gj
      go_wp2_with fail
      refine HCAT.out.mono ?_
      rintro e w3 ⟨O', co', rfl, ho, hb3⟩
      have hls := hH.res.lt
      replace hH := hH.below hb3
      have hsz := hH.mh.be.size
      obtain ⟨cc1, cc2, cc3, cc4⟩ := ho.caps
      rw [List.length_map] at cc1
      have hOn : ∃ a, O' = some a := by
        cases O' with
        | none => have := cc3 rfl; omega
        | some a => exact ⟨a, rfl⟩
      obtain ⟨a, rfl⟩ := hOn
      obtain ⟨gO, rfl, hgO1, hgO2⟩ := cc4 a rfl
      have fO := ho.frozen_ k
      obtain ⟨bz, oz, ez, _, cz⟩ := ho.vs k (.int .i64 m.os[k]) (by simp [hkl])
      injection ez with ez
      injection ez with ez1 ez2
      subst ez1; subst ez2
      have hset := ho.set_ (k := k) (by rw [List.length_map]; exact hkl) (.int .i64 n)
      rw [← List.map_set] at hset
      have hH4 := hH.other (b := gO) (i := k) (v := .int .i64 n) (by omega)
      have g1 : (0 : Int) ≤ (k : Int) := by omega
      have g2 : (k : Int) < (m.os.length : Int) := by omega
      rw [Nat.zero_add] at cz
      obtain ⟨z1', z2'⟩ := hH4.mh.c
      have hb34 : w2.heap.size ≤ w3.heap.size := hb3.size
      have hlo := hH.low
      have hset' : OR (w3.setCell ⟨gO, k, none⟩ (.int .i64 n)) w.heap.size 3 (some ⟨gO, 0, none⟩) co' ((m.os.set k n).map (Value.int .i64)) := hset.mono (by omega)
      clear HCAT z1 z2 hb3 ho cc1 cc2 cc3 cc4 hset hls hH
      generalize m.os[k] = old at cz
      have HCAT := hideP (sconcat1 (w3.setCell ⟨gO, k, none⟩ (.int .i64 n)) w3.heap.size (by simp [World.setCell]) m.A m.cs.length m.ca m.cs rfl hH4.mh.ms.cuts (by omega))
      go_wp2_with fail
      generalize w3.setCell _ _ = w4 at hH4 z1' z2' hset' HCAT ⊢
      refine HCAT.out.mono ?_
      rintro e w5 ⟨A', ca', rfl, hA, hb5⟩
      have hmo : MO w5 w.heap.size ⟨A', ca', m.cs, some ⟨gO, 0, none⟩, co', m.os.set k n⟩ := ⟨hA.mono hH4.mh.be.size, hset'.below hb5⟩
      replace hH4 := hH4.below hb5
      obtain ⟨f0, f1, d0, d1, q0, q1, hfin⟩ := hH4.rf hmo
      have HF := hideP hfin
      clear hfin hmo hA hset' hb5 HCAT z1' z2'
      simp only [List.length_set] at f0 f1 d0 d1 q0 q1 HF
      go_wp2_with fail
      exact bodyPost_ret (v := .tuple #[.agg #[.slice A' m.cs.length ca', .slice (some ⟨gO, 0, none⟩) m.os.length co'], .int .i64 0]) (by simp [results, Tryz.results36, go_sem, q0, q1]) rfl ⟨⟨A', ca', m.cs, some ⟨gO, 0, none⟩, co', m.os.set k n⟩, by rw [HV.out]; simp, by rw [HV.out], by rw [HV.out], HF.out.1, HF.out.2⟩
  · have d : (chkM m.cs m.os != 0) = true := by simp [hc]
    have HV := hideP (giveV_bad (i := i) (n := n) hc)
    clear hc
    obtain ⟨f0, f1, d0, d1, q0, q1, hfin⟩ := hH.re
    have HF := hideP hfin
    clear hfin
    generalize hq : chkM m.cs m.os = q at d HV
    clear hq
    go_wp2_with fail
    exact bodyPost_ret (v := .tuple #[.agg #[.slice none 0 0, .slice none 0 0], .int .i64 q]) (by simp [results, Tryz.results36, go_sem, q0, q1]) rfl ⟨noM, by rw [HV.out]; rfl, by rw [HV.out]; rfl, by rw [HV.out]; rfl, HF.out.1, HF.out.2⟩
end Go.Proofs.YtmepmiokpcddbabGreatDoor

set_option linter.unusedVariables false
set_option linter.unusedSimpArgs false
namespace Go.Proofs.YtmepmiokpcddbabGreatDoor
open Go.RowKit

set_option maxHeartbeats 400000 in
set_option maxRecDepth 100000 in
theorem sindex_any (A : Option Addr) (c : Nat) (l : List ByteArray) (x : ByteArray) (w : World) (hA : VS w A (l.map Value.string)) (hl : l.length < 4611686018427387904) :
    Calls Tryz.prog 123 #[.slice A l.length c, .string x] w fun e w' => ∃ r : Int, e = .returned (.int .i64 r) ∧ decide (0 ≤ r) = inB x l ∧ w = w' := by
  go_enter Tryz.func123, Tryz.ntmps123
  go_wp2_with fail
  go_loop [8] (fun i => ∃ k : Nat, k ≤ l.length ∧ i = .int .i64 k ∧ x ∉ l.take k) (fun i => l.length - (intOf i).toNat)
  case atStart => exact ⟨0, Nat.zero_le _, rfl, by simp⟩
  case round =>
    obtain ⟨k, hk, rfl, hnot⟩ := hrel
    have HN := hideP hnot
    clear hnot
    by_cases hlt : k < l.length
    · obtain ⟨b, o, rfl, hbl, q1⟩ := hA k (.string l[k]) (by simp [hlt])
      have hmem := hideP (List.getElem_mem hlt)
      have hnx := hideP (fun (h2 : x ≠ l[k]) => mem_take_next hlt HN.out h2)
      clear hA
      generalize l[k] = s at q1 hmem hnx
      by_cases he : x = s
      · have d1 := bytes_eq he
        have HE := hideP he
        clear he
        go_wp2_with fail
        go_ret
        exact ⟨k, rfl, by have := hmem.out; rw [← HE.out] at this; rw [inB_iff.2 this]; simp, rfl⟩
      · have d1 := bytes_ne he
        have HE := hideP he
        clear he
        go_wp2_with fail
        go_round
        case rel => exact ⟨k + 1, by omega, by go_num, hnx.out HE.out⟩
        case measure => simp [intOf]; omega
    · go_wp2_with fail
      go_ret
      exact ⟨-1, rfl, by have := HN.out; rw [List.take_of_length_le (by omega)] at this; rw [inB_no this]; rfl, rfl⟩

set_option maxHeartbeats 400000 in
set_option maxRecDepth 100000 in
theorem scontains_any (A : Option Addr) (c : Nat) (l : List ByteArray) (x : ByteArray) (w : World) (hA : VS w A (l.map Value.string)) (hl : l.length < 4611686018427387904) :
    Calls Tryz.prog 89 #[.slice A l.length c, .string x] w fun e w' => e = .returned (.bool (inB x l)) ∧ w = w' := by
  go_enter Tryz.func89, Tryz.ntmps89
  go_wp2_with fail
  refine (sindex_any A c l x _ hA hl).mono ?_
  rintro e w' ⟨r, rfl, hr, rfl⟩
  have HR := hideP hr
  clear hr
  go_wp2_with fail
  go_ret
  exact ⟨ret_bool HR.out, rfl⟩
end Go.Proofs.YtmepmiokpcddbabGreatDoor

set_option linter.unusedVariables false
set_option linter.unusedSimpArgs false
namespace Go.Proofs.YtmepmiokpcddbabGreatDoor
open Go.RowKit

theorem cell_nw {w : World} {cs : Array Value} {t : TypeId} {g i : Nat} {v : Value} (hg : g = w.heap.size) (h : cs[i]? = some v) : (w.alloc (.cells cs t)).cell? ⟨g, i, none⟩ = some v := by
  subst hg; exact (Box.new w t cs).cell i h
theorem cell_ol {w : World} {o : Obj} {p : Addr} {v : Value} (hlt : p.block < w.heap.size) (h : w.cell? p = some v) : (w.alloc o).cell? p = some v := (((Below.refl w.heap.size w).alloc (Nat.le_refl _) o).cell hlt).trans h
theorem cell_dr {w : World} {p : Addr} {v : Value} (h : w.cell? p = some v) : w.drew.cell? p = some v := h
end Go.Proofs.YtmepmiokpcddbabGreatDoor

set_option linter.unusedVariables false
set_option linter.unusedSimpArgs false
namespace Go.Proofs.YtmepmiokpcddbabGreatDoor
open Go.RowKit

/-- what Cut answers -/
def cutV (cs : List ByteArray) (os : List Int) (key : ByteArray) : (List ByteArray × List Int) × Int :=
  if chkM cs os ≠ 0 then (([], []), chkM cs os) else if keyB key = false then (([], []), 3) else if inB key cs = true then (([], []), 5) else if 12 ≤ cs.length then (([], []), 2) else ((cutC cs key, cutO cs os key), 0)
section
variable {cs : List ByteArray} {os : List Int} {key : ByteArray}
theorem cutV_bad (h : chkM cs os ≠ 0) : cutV cs os key = (([], []), chkM cs os) := by unfold cutV; rw [if_pos h]
theorem cutV_key (h : chkM cs os = 0) (k : keyB key = false) : cutV cs os key = (([], []), 3) := by unfold cutV; rw [if_neg (by simp [h]), if_pos k]
theorem cutV_in (h : chkM cs os = 0) (k : keyB key = true) (i : inB key cs = true) : cutV cs os key = (([], []), 5) := by unfold cutV; rw [if_neg (by simp [h]), if_neg (by simp [k]), if_pos i]
theorem cutV_big (h : chkM cs os = 0) (k : keyB key = true) (i : inB key cs = false) (l : 12 ≤ cs.length) : cutV cs os key = (([], []), 2) := by unfold cutV; rw [if_neg (by simp [h]), if_neg (by simp [k]), if_neg (by simp [i]), if_pos l]
theorem cutV_ok (h : chkM cs os = 0) (k : keyB key = true) (i : inB key cs = false) (l : ¬ 12 ≤ cs.length) : cutV cs os key = ((cutC cs key, cutO cs os key), 0) := by unfold cutV; rw [if_neg (by simp [h]), if_neg (by simp [k]), if_neg (by simp [i]), if_neg l]
end


set_option maxHeartbeats 4000000 in
set_option maxRecDepth 100000 in
theorem shcut_any (m : Mp) (key : ByteArray) (w : World) (hm : MS w m) (l2 : m.os.length ≤ 9223372036854775807) :
    Calls Tryz.prog 34 #[.agg #[.slice m.A m.cs.length m.ca, .slice m.O m.os.length m.co], .string key] w (RetMr w (cutV m.cs m.os key)) := by
  have hH := RH.new hm
  go_enter Tryz.func34, Tryz.ntmps34
  obtain ⟨z1, z2⟩ := hH.mh.c
  go_wp2_with fail
  generalize (w.alloc _).alloc _ = w1 at hH z1 z2 ⊢
  generalize hg : w.heap.size = g at hH z1 z2 ⊢
  clear hg
  refine (shcheck_any m _ hH.mh.ms l2).mono ?_
  rintro e w2 ⟨rfl, hb2⟩
  replace hH := hH.below hb2
  clear hb2 z1 z2
  by_cases hc : chkM m.cs m.os = 0
  · have hok := chkM_ok.1 hc
    have hfew := hok.few
    have HL := hideP hok.len
    have HC := hideP hc
    rw [hc]
    clear hc hok
    go_wp2_with fail
    refine (key_any key _).mono ?_
    rintro e w3 ⟨rfl, rfl⟩
    cases hk : keyB key
    · have HV := hideP (cutV_key HC.out hk)
      obtain ⟨f0, f1, d0, d1, q0, q1, hfin⟩ := hH.re
      have HF := hideP hfin
      clear hfin hk
      go_wp2_with fail
      exact bodyPost_ret (v := .tuple #[.agg #[.slice none 0 0, .slice none 0 0], .int .i64 3]) (by simp [results, Tryz.results34, go_sem, q0, q1]) rfl ⟨noM, by rw [HV.out]; rfl, by rw [HV.out]; rfl, by rw [HV.out]; rfl, HF.out.1, HF.out.2⟩
    · have HK := hideP hk
      clear hk
      obtain ⟨z1, z2⟩ := hH.mh.c
      go_wp2_with fail
      refine (scontains_any m.A m.ca m.cs key _ hH.mh.ms.cuts (by omega)).mono ?_
      rintro e w3 ⟨rfl, rfl⟩
      cases hin : inB key m.cs
      · by_cases h12 : 12 ≤ m.cs.length
        · have HV := hideP (cutV_big HC.out HK.out hin h12)
          have g12 : (12 : Int) ≤ (m.cs.length : Int) := by omega
          obtain ⟨f0, f1, d0, d1, q0, q1, hfin⟩ := hH.re
          have HF := hideP hfin
          clear hfin hin
          go_wp2_with fail
          exact bodyPost_ret (v := .tuple #[.agg #[.slice none 0 0, .slice none 0 0], .int .i64 2]) (by simp [results, Tryz.results34, go_sem, q0, q1]) rfl ⟨noM, by rw [HV.out]; rfl, by rw [HV.out]; rfl, by rw [HV.out]; rfl, HF.out.1, HF.out.2⟩
        · have HV := hideP (cutV_ok HC.out HK.out hin h12)
          have g12 : ¬ (12 : Int) ≤ (m.cs.length : Int) := by omega
          clear hin
          go_wp2_with fail
          refine (place_any m key _ hH.mh.ms hfew).mono ?_
          rintro e w3 ⟨rfl, hb3⟩
          replace hH := hH.below hb3
          clear hb3 z1 z2
          have hat := atC_le m.cs key
          have hl := HL.out
          have hlc := hm.lc
          have hlo := hm.lo
          have u1 := fun w => slice_uptoS m.A m.cs.length m.ca (atC m.cs key) (by omega) hm.nc w
          obtain ⟨A2, u2, _, v2⟩ := slice_fromS (m := atC m.cs key) hm.cuts hat hlc hm.nc
          have u3 := fun w => slice_uptoI m.O m.os.length m.co (atC m.cs key + 1) (by omega) hm.no w
          obtain ⟨bO, oO, eO, hx1, hx2⟩ := hm.own 0 (m.os[0]'(by omega)) (by simp [show 0 < m.os.length by omega])
          have u4 := fun w => slice_some bO oO m.os.length m.co (atC m.cs key) (by omega) hlo w
          have pk : IntKind.i64.wrap (((atC m.cs key : Nat) : Int) + 1) = ((atC m.cs key : Nat) : Int) + 1 := by simp only [IntKind.wrap_i64]; omega
          have e3 : (((atC m.cs key + 1 : Nat) : Int)) = ((atC m.cs key : Nat) : Int) + 1 := by omega
          rw [eO, e3] at u3
          -- the slices that are put together
          obtain ⟨O2, hO2⟩ : ∃ O2, O2 = (if m.co = atC m.cs key then some (⟨bO, oO, none⟩ : Addr) else some ⟨bO, oO + atC m.cs key, none⟩) := ⟨_, rfl⟩
          rw [← hO2] at u4
          have HP1 := hideP (fun (W : World) (h : RH w g m W) (o k : Nat) (ho : o < W.heap.size) (hk : k < W.heap.size) (c0 : W.cell? ⟨o, 0, none⟩ = some (.slice m.A (atC m.cs key) m.ca)) (c1 : W.cell? ⟨o, 1, none⟩ = some (.slice (some ⟨k, 0, none⟩) 1 1)) (c2 : W.cell? ⟨o, 2, none⟩ = some (.slice A2 (m.cs.length - atC m.cs key) (m.ca - atC m.cs key))) (ck : W.cell? ⟨k, 0, none⟩ = some (.string key)) =>
            show Calls Tryz.prog 91 #[.slice (some ⟨o, 0, none⟩) 3 3] W fun e w' => ∃ A c, e = .returned (.slice A (m.cs.length + 1) c) ∧ OR w' w.heap.size 9 A c ((cutC m.cs key).map Value.string) ∧ RH w g m w' ∧ Below W.heap.size W w' from by
              have := sconcat3 W o m.A (some ⟨k, 0, none⟩) A2 m.ca 1 (m.ca - atC m.cs key) (m.cs.take (atC m.cs key)) [key] (m.cs.drop (atC m.cs key)) ho (by rw [List.length_take, Nat.min_eq_left hat]; exact c0) c1 (by rw [List.length_drop]; exact c2)
                (by rw [List.map_take]; exact h.mh.ms.cuts.take_ _) (fun i v hv => by
                  match i with
                  | 0 => simp at hv; subst hv; exact ⟨k, 0, rfl, hk, ck⟩
                  | i + 1 => simp at hv) (v2 W h.mh.ms.cuts) (by rw [List.length_take, List.length_drop, List.length_singleton]; omega)
              have el : (m.cs.take (atC m.cs key) ++ ([key] ++ m.cs.drop (atC m.cs key))).length = m.cs.length + 1 := cutC_len
              rw [el] at this
              exact this.mono fun e w' ⟨A, c, h1, h2, h3⟩ => ⟨A, c, h1, h2.mono h.mh.be.size, h.below h3, h3⟩)
          have HP2 := hideP (fun (W : World) (h : RH w g m W) (o : Nat) (ho : o < W.heap.size) (c0 : W.cell? ⟨o, 0, none⟩ = some (.slice (some ⟨bO, oO, none⟩) (atC m.cs key + 1) m.co)) (c1 : W.cell? ⟨o, 1, none⟩ = some (.slice O2 (m.os.length - atC m.cs key) (m.co - atC m.cs key))) =>
            show Calls Tryz.prog 92 #[.slice (some ⟨o, 0, none⟩) 2 2] W fun e w' => ∃ A c, e = .returned (.slice A (m.os.length + 1) c) ∧ OR w' w.heap.size 3 A c ((cutO m.cs m.os key).map (Value.int .i64)) ∧ RH w g m w' ∧ Below W.heap.size W w' from by
              have := iconcat2_at W o (some ⟨bO, oO, none⟩) O2 m.co (m.co - atC m.cs key) (m.os.take (atC m.cs key + 1)) (m.os.drop (atC m.cs key)) ho (by rw [List.length_take, Nat.min_eq_left (by omega)]; exact c0) (by rw [List.length_drop]; exact c1)
                (by rw [List.map_take, ← eO]; exact h.mh.ms.own.vs.take_ _) (by
                  rw [hO2]
                  by_cases e : m.co = atC m.cs key
                  · rw [List.drop_of_length_le (by omega)]; exact VS.nil
                  · rw [if_neg e]
                    have hI := h.mh.ms.own
                    rw [eO] at hI
                    exact (hI.drop_ _).vs) (by rw [List.length_take, List.length_drop]; omega)
              have el : (m.os.take (atC m.cs key + 1) ++ m.os.drop (atC m.cs key)).length = m.os.length + 1 := cutO_len (key := key) HL.out
              rw [el] at this
              exact this.mono fun e w' ⟨A, c, h1, h2, h3⟩ => ⟨A, c, h1, h2.mono h.mh.be.size, h.below h3, h3⟩)
          have HS := hideP (fun (W : World) (h : RH w g m W) => show W.cell? ⟨g, 0, none⟩ = some (.slice m.A m.cs.length m.ca) ∧ W.cell? ⟨g, 1, none⟩ = some (.slice (some ⟨bO, oO, none⟩) m.os.length m.co) from by rw [← eO]; exact h.mh.c)
          have HS3 := hideP (fun (W : World) (h : Box W g 28 #[.slice m.A m.cs.length m.ca, .slice m.O m.os.length m.co]) => show W.cell? ⟨g, 0, none⟩ = some (.slice m.A m.cs.length m.ca) ∧ W.cell? ⟨g, 1, none⟩ = some (.slice (some ⟨bO, oO, none⟩) m.os.length m.co) from by rw [← eO]; exact ⟨h.cell 0 rfl, h.cell 1 rfl⟩)
          have HFIN := hideP (fun (W : World) (h : RH w g m W) (A O : Option Addr) (ca co : Nat) (hA : OR W w.heap.size 9 A ca ((cutC m.cs key).map Value.string)) (hO : OR W w.heap.size 3 O co ((cutO m.cs m.os key).map (Value.int .i64))) => show RF w g ⟨A, ca, cutC m.cs key, O, co, cutO m.cs m.os key⟩ W from h.rf ⟨hA, hO⟩)
          have HLN := hideP (show (cutC m.cs key).length = m.cs.length + 1 ∧ (cutO m.cs m.os key).length = m.os.length + 1 from ⟨cutC_len, cutO_len (key := key) HL.out⟩)
          have hlt := hH.res.lt
          clear hx1 hx2 hat hl hlc hlo v2 eO hO2 e3
          generalize atC m.cs key = a at u1 u2 u3 u4 pk HP1 HP2
          generalize cutC m.cs key = cl at HP1 HFIN HLN HV
          generalize cutO m.cs m.os key = ol at HP2 HFIN HLN HV
          go_wp2_with fail
          go_region_held3 (fun w' => w'.cell? ⟨g, 0, none⟩ = some (.slice m.A m.cs.length m.ca) ∧ w'.cell? ⟨g, 1, none⟩ = some (.slice (some ⟨bO, oO, none⟩) m.os.length m.co)) (first | with_reducible exact hS3 | (refine HS.out _ ?_; (repeat first | with_reducible exact hH2 | with_reducible exact hH1 | with_reducible exact hH | with_reducible apply RH.alloc | with_reducible apply RH.drew))) (first
            | (go_at_call 91
               first
                 | (refine (HP1.out _ (by repeat first | with_reducible exact hH | with_reducible apply RH.alloc | with_reducible apply RH.drew) _ w3.heap.size (by simp <;> omega) (by simp <;> omega) (by first | exact cell_dr (cell_nw (by simp) rfl) | exact cell_dr (cell_ol (by simp <;> omega) (cell_nw (by simp) rfl)) | exact cell_dr (cell_ol (by simp <;> omega) (cell_ol (by simp <;> omega) (cell_nw (by simp) rfl))) | exact cell_nw (by simp) rfl) (by first | exact cell_dr (cell_nw (by simp) rfl) | exact cell_dr (cell_ol (by simp <;> omega) (cell_nw (by simp) rfl)) | exact cell_dr (cell_ol (by simp <;> omega) (cell_ol (by simp <;> omega) (cell_nw (by simp) rfl))) | exact cell_nw (by simp) rfl) (by first | exact cell_dr (cell_nw (by simp) rfl) | exact cell_dr (cell_ol (by simp <;> omega) (cell_nw (by simp) rfl)) | exact cell_dr (cell_ol (by simp <;> omega) (cell_ol (by simp <;> omega) (cell_nw (by simp) rfl))) | exact cell_nw (by simp) rfl) (by first | exact cell_dr (cell_nw (by simp) rfl) | exact cell_dr (cell_ol (by simp <;> omega) (cell_nw (by simp) rfl)) | exact cell_dr (cell_ol (by simp <;> omega) (cell_ol (by simp <;> omega) (cell_nw (by simp) rfl))) | exact cell_nw (by simp) rfl)).mono ?_)
                 | (refine (HP1.out _ (by repeat first | with_reducible exact hH | with_reducible apply RH.alloc | with_reducible apply RH.drew) _ (w3.heap.size + 1) (by simp <;> omega) (by simp <;> omega) (by first | exact cell_dr (cell_nw (by simp) rfl) | exact cell_dr (cell_ol (by simp <;> omega) (cell_nw (by simp) rfl)) | exact cell_dr (cell_ol (by simp <;> omega) (cell_ol (by simp <;> omega) (cell_nw (by simp) rfl))) | exact cell_nw (by simp) rfl) (by first | exact cell_dr (cell_nw (by simp) rfl) | exact cell_dr (cell_ol (by simp <;> omega) (cell_nw (by simp) rfl)) | exact cell_dr (cell_ol (by simp <;> omega) (cell_ol (by simp <;> omega) (cell_nw (by simp) rfl))) | exact cell_nw (by simp) rfl) (by first | exact cell_dr (cell_nw (by simp) rfl) | exact cell_dr (cell_ol (by simp <;> omega) (cell_nw (by simp) rfl)) | exact cell_dr (cell_ol (by simp <;> omega) (cell_ol (by simp <;> omega) (cell_nw (by simp) rfl))) | exact cell_nw (by simp) rfl) (by first | exact cell_dr (cell_nw (by simp) rfl) | exact cell_dr (cell_ol (by simp <;> omega) (cell_nw (by simp) rfl)) | exact cell_dr (cell_ol (by simp <;> omega) (cell_ol (by simp <;> omega) (cell_nw (by simp) rfl))) | exact cell_nw (by simp) rfl)).mono ?_)
               rintro e w4 ⟨A', ca', rfl, hA, hH1, hb4⟩)
            | (go_at_call 92
               first
                 | (refine (HP2.out _ (by repeat first | with_reducible exact hH1 | with_reducible apply RH.alloc | with_reducible apply RH.drew) _ (by simp <;> omega) (by first | exact cell_dr (cell_nw (by simp) rfl) | exact cell_dr (cell_ol (by simp <;> omega) (cell_nw (by simp) rfl)) | exact cell_dr (cell_ol (by simp <;> omega) (cell_ol (by simp <;> omega) (cell_nw (by simp) rfl))) | exact cell_nw (by simp) rfl) (by first | exact cell_dr (cell_nw (by simp) rfl) | exact cell_dr (cell_ol (by simp <;> omega) (cell_nw (by simp) rfl)) | exact cell_dr (cell_ol (by simp <;> omega) (cell_ol (by simp <;> omega) (cell_nw (by simp) rfl))) | exact cell_nw (by simp) rfl)).mono ?_)
                 | (refine (HP2.out _ hH1 _ ?_ ((hb4.cell (by simp <;> omega)).trans (by first | exact cell_dr (cell_nw (by simp) rfl) | exact cell_dr (cell_ol (by simp <;> omega) (cell_nw (by simp) rfl)) | exact cell_dr (cell_ol (by simp <;> omega) (cell_ol (by simp <;> omega) (cell_nw (by simp) rfl))) | exact cell_nw (by simp) rfl)) ((hb4.cell (by simp <;> omega)).trans (by first | exact cell_dr (cell_nw (by simp) rfl) | exact cell_dr (cell_ol (by simp <;> omega) (cell_nw (by simp) rfl)) | exact cell_dr (cell_ol (by simp <;> omega) (cell_ol (by simp <;> omega) (cell_nw (by simp) rfl))) | exact cell_nw (by simp) rfl))).mono ?_
                    · refine Nat.lt_of_lt_of_le ?_ hb4.size; (simp <;> omega))
               rintro e w5 ⟨O', co', rfl, hO, hH2, hb5⟩
               have hb5' : Below w4.heap.size w4 w5 := by first | exact hb5 | exact ((Below.refl _ _).alloc (Nat.le_refl _) _).trans (hb5.mono (by simp))
               obtain ⟨f0, f1, d0, d1, q0, q1, hfin⟩ := HFIN.out w5 hH2 A' O' ca' co' (hA.below hb5') hO
               simp only [HLN.out.1, HLN.out.2] at f1 d1 q0 q1 hfin
               have HF := hideP hfin
               have hx := ((hH2.mh.x0.other (a := ⟨g + 1, 0, none⟩) (by show g + 1 ≠ g; omega) (.slice A' (m.cs.length + 1) ca')).other (a := ⟨g + 1, 1, none⟩) (by show g + 1 ≠ g; omega) (.slice O' (m.os.length + 1) co'))
               have hS3 := HS3.out _ hx
               clear hfin hx))
          all_goals
            go_wp2_with fail
            exact bodyPost_ret (v := .tuple #[.agg #[.slice A' (m.cs.length + 1) ca', .slice O' (m.os.length + 1) co'], .int .i64 0]) (by simp [results, Tryz.results34, go_sem, q0, q1]) rfl ⟨⟨A', ca', cl, O', co', ol⟩, by rw [HV.out]; simp only [HLN.out.1, HLN.out.2], by rw [HV.out], by rw [HV.out], HF.out.1, HF.out.2⟩
      · have HV := hideP (cutV_in HC.out HK.out hin)
        obtain ⟨f0, f1, d0, d1, q0, q1, hfin⟩ := hH.re
        have HF := hideP hfin
        clear hfin hin
        go_wp2_with fail
        exact bodyPost_ret (v := .tuple #[.agg #[.slice none 0 0, .slice none 0 0], .int .i64 5]) (by simp [results, Tryz.results34, go_sem, q0, q1]) rfl ⟨noM, by rw [HV.out]; rfl, by rw [HV.out]; rfl, by rw [HV.out]; rfl, HF.out.1, HF.out.2⟩
  · have d : (chkM m.cs m.os != 0) = true := by simp [hc]
    have HV := hideP (cutV_bad (key := key) hc)
    clear hc
    obtain ⟨f0, f1, d0, d1, q0, q1, hfin⟩ := hH.re
    have HF := hideP hfin
    clear hfin
    generalize hq : chkM m.cs m.os = q at d HV
    clear hq
    go_wp2_with fail
    exact bodyPost_ret (v := .tuple #[.agg #[.slice none 0 0, .slice none 0 0], .int .i64 q]) (by simp [results, Tryz.results34, go_sem, q0, q1]) rfl ⟨noM, by rw [HV.out]; rfl, by rw [HV.out]; rfl, by rw [HV.out]; rfl, HF.out.1, HF.out.2⟩
end Go.Proofs.YtmepmiokpcddbabGreatDoor
