/-
  rokeep.LockOrder: the law answers true.
-/
import Derived.Test.YtibfemibkdnegaaLAll
import Derived.Laws.MakeOwn
set_option linter.unusedVariables false
set_option linter.unusedSimpArgs false
namespace Go.Proofs.Ytibfemibkdnegaa
open Go.RowKit Go.WideMaps Go.Maps

theorem made_bools (n : Nat) : (madeCells (Value.bool false).cells (n * 1)).toList = (List.replicate n false).map Value.bool := by
  rw [Nat.mul_one, madeCells, Array.toList_map]
  apply List.ext_getElem?
  intro i
  simp [Value.cells, Nat.mod_one]
  by_cases h : i < n <;> simp [h, List.getElem?_replicate]
theorem rep_false (n i : Nat) : (List.replicate n false).getD i false = false := by
  rw [List.getD_eq_getElem?_getD, List.getElem?_replicate]; split <;> rfl
theorem slice_upto (T : Option Addr) (n ct m : Nat) (hm : m ≤ ct) (hn : T = none → ct = 0) (w : World) : (Instr.slice 23 (.slice T n ct) none (some (.int .i64 (m : Int))) none).run Try.prog w = .ok (.slice T m ct) w := by
  have g1 : (0 : Int) ≤ (m : Int) := by omega
  have g2 : (m : Int) ≤ (ct : Int) := by omega
  cases T with
  | none =>
    obtain rfl := hn rfl
    obtain rfl : m = 0 := by omega
    clear hn hm
    go_simp
  | some a =>
    clear hn hm
    go_simp
/-- while they are tried -/
def OrdInv (w1 : World) (gb : Nat) (ds : List Dl) (i : Value) (wr : World) : Prop :=
  ∃ (t : Nat) (left : List En) (gl : List Bool), i = .int .i64 t ∧ TB wr w1.heap.size w1.heap.size ds.length left ∧ Lk left (ddOf ds) (fun i => gl.getD i false) ∧ gl.length = ds.length ∧ OR wr w1.heap.size 4 (some ⟨gb, 0, none⟩) ds.length (gl.map Value.bool) ∧ Below w1.heap.size w1 wr

/-- while it is asked who waits -/
def WtInv (wr : World) (ds : List Dl) (gl : List Bool) (k : Nat) (v i : Value) (w' : World) : Prop :=
  ∃ n : Nat, n ≤ k ∧ i = .int .i64 n ∧ v = .bool (wtB (ddOf ds) (fun i => gl.getD i false) k n) ∧ Below wr.heap.size wr w'

set_option maxHeartbeats 2000000 in
set_option maxRecDepth 100000 in
theorem order_walk (A T : Option Addr) (c ct : Nat) (cs : List Cl) (zs : List Int) (w : World) (hA : LS w A cs) (hl : cs.length ≤ c) (hc : c ≤ 9223372036854775807) (hn : A = none → c = 0)
    (hT : IS w T zs) (hlt : zs.length ≤ ct) (hct : ct ≤ 9223372036854775807) (hnt : T = none → ct = 0) :
    Calls Try.prog 4 #[.slice A cs.length c, .slice T zs.length ct] w fun e w' => e = .returned (.bool true) ∧ Below w.heap.size w w' := by
  obtain ⟨m, hm⟩ : ∃ m : Nat, m = min zs.length 60 := ⟨_, rfl⟩
  have hm1 : m ≤ zs.length := by omega
  have gm : min (zs.length : Int) 60 = (m : Int) := by omega
  have hsl := slice_upto T zs.length ct m (by omega) hnt
  clear hm
  go_enter Try.func4, Try.ntmps4
  go_wp2_with fail
  refine (lbegun_any _).mono ?_
  rintro e w0 ⟨rfl, hb0⟩
  have hA0 := hA.below hb0
  have hT0 := hT.below hb0
  clear hA hT
  go_wp2_with fail
  refine (deeds_any A c 15 cs _ hA0 hl hc hn (by omega)).mono ?_
  rintro e w1 ⟨A1, c1, ds, rfl, hD1, hlen, hb1⟩
  have hb2 := hb0.trans (hb1.mono hb0.size)
  have hT1 := hT0.below hb1
  have hchk := hD1.chk
  have hDS := hD1.ds
  clear hA0 hT0 hb0 hb1 hD1
  go_wp2_with fail
  refine (new_any _).mono ?_
  rintro e w2 ⟨rfl, hTB2, hb3, hlt3⟩
  go_wp2_with fail
  go_loopw [26] (AddsInv w1 ds) (fun i _ => ds.length - (intOf i).toNat)
  case atStart => exact ⟨0, [], Nat.zero_le _, rfl, hTB2, Lk.nil _, hb3⟩
  case round =>
    obtain ⟨k, left, hk, rfl, hTB, hLk, hbw⟩ := hrel
    clear hTB2
    by_cases hkl : k < ds.length
    · obtain ⟨⟨b, o, rfl, hbl, q1⟩, hos⟩ := (hDS.below hbw).at_ hkl
      have hck := hchk _ (List.getElem_mem hkl)
      have HT := hideP (ddOf_take hkl)
      have hdl : (ddOf (ds.take k)).length = k := by rw [ddOf_len, List.length_take]; omega
      generalize ds[k] = x at q1 hos hck HT
      obtain ⟨Dx, cx, dx⟩ := x
      simp only [dlV] at q1 hos hck HT
      have hb4 := (Below.refl wr.heap.size wr).alloc (Nat.le_refl _) (.cells #[.slice Dx dx.length cx] 31)
      have hTB4 := hTB.below hb4
      have hos4 := hos.go hb4
      have hbw4 := hbw.trans (hb4.mono hbw.size)
      have HL := hideP (fun A c => hLk.add rfl A c dx)
      rw [hdl, ← HT.out] at HL
      have r1 : (wr.alloc (.cells #[.slice Dx dx.length cx] 31)).cell? ⟨wr.heap.size, 0, none⟩ = some (.slice Dx dx.length cx) := by simp
      have hv : addV k dx = (k, 0) := by unfold addV; rw [if_pos hck, if_pos (by omega)]
      have g1 : (0 : Int) ≤ (k : Int) := by omega
      have g2 : (k : Int) < (ds.length : Int) := by omega
      have HV := hideP hv
      clear hTB hLk hos hb4 hDS HT hv
      go_wp2_with fail
      refine (add_any w1.heap.size w1.heap.size k left Dx cx dx _ hTB4 hbw4.size hos4).mono ?_
      rintro e w5 ⟨he, hK5, hT5⟩
      rw [HV.out] at he hT5
      subst he
      obtain ⟨A5, c5, hT6⟩ : ∃ A c, TB w5 w1.heap.size w1.heap.size (k + 1) (left ++ [⟨k, A, c, dx⟩]) := by
        rcases hT5 with ⟨_, h⟩ | ⟨h, _⟩
        · exact h
        · exact absurd rfl h
      have hb6 := hbw4.trans hK5.bel
      have hL6 := HL.out A5 c5
      clear hT5 hK5 hTB4 hos4 r1 HV HL
      go_wp2_with fail
      go_roundw
      case rel => exact ⟨k + 1, _, by omega, by go_num, hT6, hL6, hb6⟩
      case measure => simp [intOf]; omega
    · have hkk : k = ds.length := by omega
      subst hkk
      rw [List.take_length] at hLk
      obtain ⟨i0, hi0, hz0, hz1, hz2⟩ := info_parts boolInfo
      obtain ⟨w6, hmk, hown6, hg6⟩ := run_make_full (P := Try.prog) wr wr.heap.size 43 4 i0 _ 1 Try.underlying43 hi0 hz0 hz1 .i64 .i64 ds.length (by rw [hz2]; omega) (by unfold maxLen; omega) (Nat.le_refl _)
      rw [made_bools] at hown6
      have hor6 : OR w6 wr.heap.size 4 (some ⟨wr.heap.size, 0, none⟩) ds.length ((List.replicate ds.length false).map Value.bool) := by unfold OR; simpa using hown6
      have hb6 : Below wr.heap.size wr w6 := ⟨hg6.os, hg6.tape, hg6.output, hg6.size, fun k hk => hg6.block k hk (by simp)⟩
      have hbw6 := hbw.trans (hb6.mono hbw.size)
      have hTB6 := hTB.below hb6
      have hI0 : OrdInv w1 wr.heap.size ds (.int .i64 0) w6 := ⟨0, left, List.replicate ds.length false, rfl, hTB6, by rw [show (fun i => (List.replicate ds.length false).getD i false) = fun _ => false from funext fun i => rep_false _ _]; exact hLk, by simp, hor6.mono hbw.size, hbw6⟩
      have HI0 := hideP hI0
      clear hTB hLk hown6 hg6 hor6 hTB6 hI0 hi0 hz0 hz1 hz2
      have hgb : wr.heap.size < w6.heap.size := by obtain ⟨_, _, _, _, _, _, _, ho, _⟩ := HI0.out; exact (World.ownsRow.lt ho _ rfl).2
      generalize wr.heap.size = gb at HI0 hmk hb6 hgb
      go_wp2_with fail
      go_loopw [48] (OrdInv w1 gb ds) (fun i _ => m - (intOf i).toNat)
      case atStart => exact HI0.out
      case round =>
        clear HI0 hmk hsl gm
        obtain ⟨t, left, gl, rfl, hTB, hLk, hgl, hor, hbw⟩ := hrel
        by_cases htm : t < m
        · by_cases hd0 : ds.length = 0
          · have g0 : ((ds.length : Int) == 0) = true := by simp [hd0]
            obtain ⟨b, o, rfl, hbl, q1⟩ := hT1.below hbw t _ (List.getElem?_eq_getElem (by omega))
            generalize zs[t] = z at q1
            have g1 : (0 : Int) ≤ (t : Int) := by omega
            have g2 : (t : Int) < (m : Int) := by omega
            have hfin := hb2.trans (hbw.mono hb2.size)
            clear hTB hLk hor
            go_wp2_with fail
            go_ret
            exact ⟨rfl, hfin⟩
          · have g0 : ((ds.length : Int) == 0) = false := by simp [hd0]
            obtain ⟨b, o, rfl, hbl, q1⟩ := hT1.below hbw t _ (List.getElem?_eq_getElem (by omega))
            generalize zs[t] = z at q1
            have g1 : (0 : Int) ≤ (t : Int) := by omega
            have g2 : (t : Int) < (m : Int) := by omega
            have hwi := wi_lt z ds.length (by omega)
            have hWI := hideP (within_any z ds.length (by omega) (by omega) wr)
            go_wp2_with fail
            refine hWI.out.mono ?_
            rintro e w7 ⟨rfl, rfl⟩
            clear hWI
            generalize wi z ds.length = k at hwi ⊢
            go_wp2_with fail
            go_loopw [14, 60] (WtInv wr ds gl k) (fun _ i _ => k - (intOf i).toNat)
            case atStart => exact ⟨0, Nat.zero_le _, rfl, rfl, Below.refl _ _⟩
            case round =>
              obtain ⟨i, hi, rfl, rfl, hbi⟩ := hrel
              by_cases hik : i < k
              · have hDSi := hDS.below (hbw.trans (hbi.mono hbw.size))
                obtain ⟨⟨b1, o1, eA1, hbl1, y1⟩, hos1⟩ := hDSi.at_ (show i < ds.length by omega)
                obtain ⟨⟨b2, o2, eA2, hbl2, y2⟩, hos2⟩ := hDSi.at_ hwi
                rw [eA1] at eA2
                injection eA2 with eA2
                injection eA2 with e1 e2 _
                subst e1; subst e2
                have hc1 := hchk _ (List.getElem_mem (show i < ds.length by omega))
                have hc2 := hchk _ (List.getElem_mem hwi)
                have HW := hideP (wtB_succ (ddOf ds) (fun i => gl.getD i false) k i)
                rw [ddOf_get (show i < ds.length by omega), ddOf_get hwi] at HW
                have hgi : i < gl.length := by omega
                obtain ⟨b3, o3, eG, hbl3, y3⟩ := (hor.below hbi).vs i (.bool gl[i]) (by simp [hgi])
                injection eG with eG
                injection eG with e3 e4 _
                subst e3; subst e4
                have hgd : gl.getD i false = gl[i] := by simp [List.getD_eq_getElem?_getD, hgi]
                rw [hgd] at HW
                clear hgd hDSi hDS hTB hLk hor
                generalize ds[i] = x at y1 hos1 hc1 HW
                generalize ds[k] = y at y2 hos2 hc2 HW
                obtain ⟨Dx, cx, dx⟩ := x
                obtain ⟨Dy, cy, dy⟩ := y
                simp only [dlV] at y1 hos1 hc1 y2 hos2 hc2 HW
                generalize gl[i] = gi at y3 HW
                generalize wtB (ddOf ds) (fun i => gl.getD i false) k i = wt at HW ⊢
                rw [eA1]
                have g3 : (0 : Int) ≤ (i : Int) := by omega
                have g4 : (i : Int) < (k : Int) := by omega
                have g5 : (i : Int) < (ds.length : Int) := by omega
                have g6 : (0 : Int) ≤ (k : Int) := by omega
                have g7 : (k : Int) < (ds.length : Int) := by omega
                have hbd : Below wr.heap.size wr wr.drew := (Below.refl _ _).drew
                have HC := hideP (clash_ok Dx Dy cx cy dx dy wr.drew (hos1.go hbd) (hos2.go hbd) hc1 hc2)
                have hbid := hbi.drew
                have k1 : wr.drew.cell? ⟨b1, o1 + i, none⟩ = some (.slice Dx dx.length cx) ∧ wr.drew.cell? ⟨b1, o1 + k, none⟩ = some (.slice Dy dy.length cy) := ⟨y1, y2⟩
                have y4 : wr.drew.cell? ⟨gb, 0 + i, none⟩ = some (.bool gi) := y3
                have hlb : b1 < wr.drew.heap.size := hbl1
                have hlg : gb < wr.drew.heap.size := hbl3
                clear hos1 hos2 hbd y1 y2 y3 hc1 hc2
                generalize clB dx dy = cl at HW HC
                go_wp2_with fail
                go_region_held3 (fun w' => w'.cell? ⟨b1, o1 + i, none⟩ = some (.slice Dx dx.length cx) ∧ w'.cell? ⟨b1, o1 + k, none⟩ = some (.slice Dy dy.length cy)) (with_reducible first | exact k1 | exact k2) (first
                  | (go_at_call 11; refine HC.out.mono ?_; rintro e2 w8 ⟨rfl, hb8⟩; have k2 := And.intro ((hb8.cell (p := ⟨b1, o1 + i, none⟩) hlb).trans k1.1) ((hb8.cell (p := ⟨b1, o1 + k, none⟩) hlb).trans k1.2)))
                all_goals
                  have y5 := (hb8.cell (p := ⟨gb, 0 + i, none⟩) hlg).trans y4
                  rw [Nat.zero_add] at y5
                  have hb9 := hbid.trans (hb8.mono (Nat.le_trans hbi.size (Nat.le_refl _)))
                  clear hb8 HC k1 y4 k2
                  have g8 : (0 : Int) ≤ (i : Int) := by omega
                  cases cl
                  · cases gi <;> (
                      rw [Bool.and_false, Bool.or_false] at HW
                      rw [← HW.out]
                      go_wp2_with fail
                      go_roundw
                      case rel => exact ⟨i + 1, by omega, by go_num, rfl, hb9⟩
                      case measure => simp [intOf]; omega)
                  · cases gi
                    · have HX := hideP (show wtB (ddOf ds) (fun i => gl.getD i false) k (i + 1) = true by rw [HW.out]; cases wt <;> rfl)
                      clear HW
                      go_wp2_with fail
                      go_roundw
                      case rel => exact ⟨i + 1, by omega, by go_num, by rw [HX.out], hb9⟩
                      case measure => simp [intOf]; omega
                    · have HX := hideP (show wtB (ddOf ds) (fun i => gl.getD i false) k (i + 1) = wt by rw [HW.out]; cases wt <;> rfl)
                      clear HW
                      go_wp2_with fail
                      go_roundw
                      case rel => exact ⟨i + 1, by omega, by go_num, by rw [HX.out], hb9⟩
                      case measure => simp [intOf]; omega
              · have hik2 : i = k := by omega
                subst hik2
                have hgk : i < gl.length := by omega
                have hTBi := hTB.below hbi
                have hori := hor.below hbi
                have hbwi := hbw.trans (hbi.mono hbw.size)
                have HFV := hideP (hLk.freeV_ (k := i) (by rw [ddOf_len]; exact hwi))
                have hgd : gl.getD i false = gl[i] := by simp [List.getD_eq_getElem?_getD, hgk]
                obtain ⟨b3, o3, eG, hbl3, y3⟩ := hori.vs i (.bool gl[i]) (by simp [hgk])
                injection eG with eG
                injection eG with e3 e4 _
                subst e3; subst e4
                rw [Nat.zero_add] at y3
                simp only [hgd] at HFV
                have HLF := hideP (hLk.free i)
                have HLK := hideP hLk
                have HGS := hideP (fun v j => getD_set_ gl hgk v j)
                have HFR := hideP (free_any w1.heap.size w1.heap.size ds.length left (i : Int) wr hTBi hbwi.size)
                have HGD := hideP hgd
                have HEN := hideP (fun (w9 : World) (v : Bool) (left' : List En) (hT : TB w9 w1.heap.size w1.heap.size ds.length left') (hL : Lk left' (ddOf ds) (fun j => (gl.set i v).getD j false)) (hK : Kp w1.heap.size wr w9) =>
                  show OrdInv w1 gb ds (.int .i64 ((t + 1 : Nat) : Int)) (w9.setCell ⟨gb, i, none⟩ (.bool v)) from by
                    have ho9 := hori.kp hK (by decide) (by decide) (by decide)
                    refine ⟨t + 1, left', gl.set i v, rfl, hT.grown (grown_setCell w9 ⟨gb, i, none⟩ (.bool v)) (fun b hb => by injection hb with hb; subst hb; exact ⟨_, ho9.ty_, by decide, by decide, by decide, by decide⟩), hL, by rw [List.length_set]; exact hgl, ?_, ?_⟩
                    · rw [List.map_set]; exact ho9.set_ (by simpa using hgk) _
                    · exact (hbwi.trans hK.bel).grown (grown_setCell w9 ⟨gb, i, none⟩ (.bool v)) (Nat.le_trans hbwi.size hK.bel.size) (fun b hb => by injection hb with hb; subst hb; exact (World.ownsRow.lt ho9 gb rfl).1))
                have HCG := hideP (fun (w9 : World) (hK : Kp w1.heap.size wr w9) => show w9.cell? ⟨gb, i, none⟩ = some (.bool gl[i]) ∧ w9.frozen? ⟨gb, i, none⟩ = false from by
                  have ho9 := hori.kp hK (by decide) (by decide) (by decide)
                  obtain ⟨b3, o3, eG, hbl3, y3⟩ := ho9.vs i (.bool gl[i]) (by simp [hgk])
                  injection eG with eG
                  injection eG with e3 e4 _
                  subst e3; subst e4
                  rw [Nat.zero_add] at y3
                  exact ⟨y3, ho9.frozen_ i⟩)
                clear hDS hTB hLk hor hTBi hori hgd
                generalize gl[i] = gk at y3 HFV HCG HGD
                have g3 : (0 : Int) ≤ (i : Int) := by omega
                have g5 : (i : Int) < (ds.length : Int) := by omega
                cases gk
                · cases hwt : wtB (ddOf ds) (fun j => gl.getD j false) i i
                  · rw [hwt] at HFV
                    have hf0 : freeV left (i : Int) = 0 := HFV.out
                    have HW := hideP hwt
                    clear HFV hwt
                    go_wp2_with fail
                    refine HFR.out.mono ?_
                    rintro e w9 ⟨he, hT9, hK9⟩
                    rw [hf0] at he hT9
                    rw [if_pos rfl] at hT9
                    subst he
                    obtain ⟨y6, y7⟩ := HCG.out w9 hK9
                    have hEN := HEN.out w9 true _ hT9 (by
                      rw [show (fun j => (gl.set i true).getD j false) = fun j => gl.getD j false || decide (j = i) from funext fun j => by
                        rw [HGS.out]
                        by_cases e : j = i
                        · subst e; simp
                        · simp [e]]
                      exact HLF.out) hK9
                    have HE := hideP hEN
                    clear hEN HEN HFR HCG HLF HLK HGS hT9 hK9
                    go_wp2_with fail
                    go_roundw
                    case rel => rw [show (t : Int) + 1 = ((t + 1 : Nat) : Int) by omega]; exact HE.out
                    case measure => simp [intOf]; omega
                  · rw [hwt] at HFV
                    have hf0 : freeV left (i : Int) = 6 := HFV.out
                    have HW := hideP hwt
                    clear HFV hwt
                    go_wp2_with fail
                    refine HFR.out.mono ?_
                    rintro e w9 ⟨he, hT9, hK9⟩
                    rw [hf0] at he hT9
                    rw [if_neg (by decide)] at hT9
                    subst he
                    obtain ⟨y6, y7⟩ := HCG.out w9 hK9
                    have hEN := HEN.out w9 false _ hT9 (by
                      rw [show (fun j => (gl.set i false).getD j false) = fun j => gl.getD j false from funext fun j => by
                        rw [HGS.out]
                        by_cases e : j = i
                        · subst e; rw [if_pos rfl, HGD.out]
                        · rw [if_neg e]]
                      exact HLK.out) hK9
                    have HE := hideP hEN
                    clear hEN HEN HFR HCG HLF HLK HGS hT9 hK9
                    go_wp2_with fail
                    go_roundw
                    case rel => rw [show (t : Int) + 1 = ((t + 1 : Nat) : Int) by omega]; exact HE.out
                    case measure => simp [intOf]; omega
                · have hf0 : freeV left (i : Int) = 4 := HFV.out
                  clear HFV
                  generalize wtB (ddOf ds) (fun j => gl.getD j false) i i = wt
                  go_wp2_with fail
                  refine HFR.out.mono ?_
                  rintro e w9 ⟨he, hT9, hK9⟩
                  rw [hf0] at he hT9
                  rw [if_neg (by decide)] at hT9
                  subst he
                  obtain ⟨y6, y7⟩ := HCG.out w9 hK9
                  have hEN := HEN.out w9 true _ hT9 (by
                    rw [show (fun j => (gl.set i true).getD j false) = fun j => gl.getD j false from funext fun j => by
                      rw [HGS.out]
                      by_cases e : j = i
                      · subst e; rw [if_pos rfl, HGD.out]
                      · rw [if_neg e]]
                    exact HLK.out) hK9
                  have HE := hideP hEN
                  clear hEN HEN HFR HCG HLF HLK HGS hT9 hK9
                  go_wp2_with fail
                  go_roundw
                  case rel => rw [show (t : Int) + 1 = ((t + 1 : Nat) : Int) by omega]; exact HE.out
                  case measure => simp [intOf]; omega
        · have hfin := hb2.trans (hbw.mono hb2.size)
          clear hTB hLk hor
          go_wp2_with fail
          go_ret
          exact ⟨rfl, hfin⟩
end Go.Proofs.Ytibfemibkdnegaa
