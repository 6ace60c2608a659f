/-
  roref.ReadDeed: what it reads.
-/
import Derived.Test.YtmepmiokpcddbabGreatDoorCa22
import Derived.Test.YtmepmiokpcddbabGreatDoorCa21
import Derived.Test.YtmepmiokpcddbabGreatDoorCa14
import Derived.Test.YtmepmiokpcddbabGreatDoorCa23
set_option linter.unusedVariables false
set_option linter.unusedSimpArgs false
namespace Go.Proofs.YtmepmiokpcddbabGreatDoor
open Go.RowKit
open Go.Lib hiding intOf

def rzM (s m : Value) : Nat := match s, m with
  | .string x, .bool true => x.size + 1
  | _, _ => 0
theorem ext_one {l : List UInt8} {k : Nat} (h : k < l.length) : (bs l).extract k (k + 1) = bs [l[k]] := by
  refine ba_ext ?_
  have h1 : ((bs l).extract k (k + 1)).data.toList = (l.drop k).take 1 := by simp [bs]
  rw [h1, List.drop_eq_getElem_cons h]; rfl
theorem sign_has (c : UInt8) : decide (0 ≤ indexByte signs c) = signs.contains c := by
  unfold signs
  by_cases h : c ∈ [61, 43, 60, 63]
  · simp only [List.mem_cons, List.not_mem_nil, or_false] at h
    rcases h with rfl | rfl | rfl | rfl <;> decide
  · rw [ibyte_no h]
    simpa using h
theorem setCell_two (w : World) (g i j : Nat) (x y : Value) (h : i ≠ j) : (w.setCell ⟨g, i, none⟩ x).setCell ⟨g, j, none⟩ y = (w.setCell ⟨g, j, none⟩ y).setCell ⟨g, i, none⟩ x := by
  rw [Go.Sort.setCell_eq, Go.Sort.setCell_eq, Go.Sort.setCell_eq, Go.Sort.setCell_eq, Go.Sort.mapBlock_mapBlock, Go.Sort.mapBlock_mapBlock]
  congr 1
  funext c
  exact Array.setIfInBounds_comm _ _ h
theorem ibyte_hit {a r : List UInt8} {c : UInt8} (h : c ∉ a) : indexByte (a ++ c :: r) c = (a.length : Int) := by rw [indexByte_eq, index_hit h]
set_option maxHeartbeats 8000000 in
set_option maxRecDepth 100000 in
theorem rrddeed_any (s : ByteArray) (w : World) (hs : s.size < 4294967281) :
    Calls Tryz.prog 15 #[.string s] w (RetRd w s.data.toList) := by
  have b1 := ((Below.refl w.heap.size w).alloc (Nat.le_refl _) (.cells #[.slice none 0 0] 24)).alloc (by simp) (.cells #[.slice none 0 0] 24)
  have x1 := (Box.new w 24 #[.slice none 0 0]).alloc (.cells #[.slice none 0 0] 24)
  have x2 := Box.new (w.alloc (.cells #[.slice none 0 0] 24)) 24 #[.slice none 0 0]
  simp only [World.size_alloc] at x2
  go_enter Tryz.func15, Tryz.ntmps15
  go_wp2_with fail
  generalize (w.alloc (.cells #[.slice none 0 0] 24)).alloc (.cells #[.slice none 0 0] 24) = w1 at b1 x1 x2 ⊢
  have HI := hideP (show RzI w w.heap.size (w.heap.size + 1) w1.heap.size s.size s.data.toList (.string s) (.bool true) w1 from
    ⟨s, true, none, 0, [], _, rfl, rfl, ⟨x2, x1, OO.nil _ _, b1.size, Nat.le_refl _, by omega, by omega, by omega, b1⟩, rfl, rfl, by simp⟩)
  generalize w1.heap.size = B at HI
  generalize w.heap.size + 1 = gm at HI ⊢
  generalize hgr : w.heap.size = gr at HI ⊢
  have HR := hideP hgr
  clear x1 x2 b1 hgr
  obtain ⟨N, hN⟩ : ∃ N, s.size = N := ⟨_, rfl⟩
  rw [hN] at HI hs
  clear hN
  obtain ⟨L, hL⟩ : ∃ L, s.data.toList = L := ⟨_, rfl⟩
  rw [hL] at HI
  have HL := hideP hL
  clear hL
  go_loopw [0, 5] (RzI w gr gm B N L) (fun s m _ => rzM s m)
  case atStart => exact HI.out
  case round =>
    obtain ⟨rest, more, D, c, d, W, rfl, rfl, hM, hread, hW, hlen⟩ := hrel
    cases more
    · simp only [Bool.false_eq_true, if_false] at hW hlen
      subst hW
      have HV := hideP (rdD_some (show prOs [] (spl 59 L) = some d by rw [hread]; rfl))
      clear hread
      have m0 := hM.box.cell 0 rfl
      have HQ := hideP (rdeed_any D c d wr hM.oo.os)
      go_wp2_with fail
      refine HQ.out.mono ?_
      rintro e w5 ⟨rfl, hb5⟩
      have hM5 := hM.below hb5
      by_cases hc : chkD d = 0
      · have HV2 := hideP (show rdD L = (0, d) by rw [HV.out, if_pos hc])
        rw [hc]
        clear hc HV HQ m0
        have m0 := hM5.box.cell 0 rfl
        have t0 := hM5.res.cell 0 rfl
        have t1 := hM5.res.frozen 0
        have R := hM5.res.set 0 (.slice D d.length c)
        have q0 := R.cell 0 rfl
        have HF := hideP (And.intro ((hM5.oo.mono hM5.wB).set1 (g := gr) (i := 0) (v := .slice D d.length c) hM5.res.ty (by decide)) (below_set1 (i := 0) (v := .slice D d.length c) hM5.bel hM5.lowr))
        clear R hM5 hM
        go_wp2_with fail
        exact bodyPost_ret (v := .tuple #[.agg #[.slice D d.length c], .int .i64 0]) (by simp [results, Tryz.results15, go_sem, q0]) rfl (by rw [HL.out]; exact ⟨D, c, d, by rw [HV2.out], by rw [HV2.out], HF.out.1, HF.out.2⟩)
      · have HV2 := hideP (show rdD L = (chkD d, []) by rw [HV.out, if_neg hc])
        have d1 : (chkD d != 0) = true := by simpa using hc
        clear hc HV HQ m0
        generalize chkD d = q at d1 HV2 ⊢
        have t0 := hM5.res.cell 0 rfl
        have t1 := hM5.res.frozen 0
        have R := hM5.res.set 0 (.slice none 0 0)
        have q0 := R.cell 0 rfl
        have HF := hideP (below_set1 (i := 0) (v := .slice none 0 0) hM5.bel hM5.lowr)
        clear R hM5 hM
        go_wp2_with fail
        exact bodyPost_ret (v := .tuple #[.agg #[.slice none 0 0], .int .i64 q]) (by simp [results, Tryz.results15, go_sem, q0]) rfl (by rw [HL.out]; exact ⟨none, 0, [], by rw [HV2.out]; rfl, by rw [HV2.out], OO.nil _ _, HF.out⟩)
    · simp only [if_true] at hW hlen
      subst hW
      have HX := hideP (cut_any rest 59 wr (by omega))
      obtain ⟨x, r, more, hcut, hspl, hsz, hxl⟩ : ∃ (x r : List UInt8) (more : Bool), cut rest.data.toList [59] = (x, r, more) ∧ spl 59 rest.data.toList = x :: (if more then spl 59 r else []) ∧ r.length + (if more then 1 else 0) ≤ rest.size ∧ x.length ≤ rest.size := by
        have hl : rest.data.toList.length = rest.size := by simp
        rcases at_byte 59 rest.data.toList with h | ⟨a, r, h, ha⟩
        · exact ⟨_, _, _, cut_no h, by rw [spl_no h]; rfl, by simp, by omega⟩
        · rw [h] at hl ⊢
          exact ⟨_, _, _, cut_hit ha, by rw [spl_hit ha]; rfl, by simp at hl; simp; omega, by simp at hl; omega⟩
      rw [hcut] at HX
      rw [hspl, prOs] at hread
      have HM := hideP (show rzM (.string (bs r)) (.bool more) < rzM (.string rest) (.bool true) by
        cases more
        · exact Nat.succ_pos _
        · show (bs r).size + 1 < rest.size + 1
          simp only [if_true] at hsz
          rw [bs_size]; omega)
      have hln : d.length + (bs r).size + 1 ≤ N + (if more then 0 else 1) := by
        rw [bs_size]
        cases more <;> simp at hsz ⊢ <;> omega
      have HLN := hideP hln
      have hdl : d.length ≤ 5000000000 := by omega
      have hxs : x.length < 4294967281 := by omega
      have HRD := hideP hread
      clear hcut hspl hsz hln hlen hread hxl
      go_wp2_with fail
      refine HX.out.mono ?_
      rintro e w4 ⟨rfl, hb4⟩
      have hM4 := hideP (hM.below hb4)
      clear hM hb4 HX
      go_wp2_with fail
      go_loop [7] (fun i => ∃ k : Nat, k ≤ x.length ∧ i = .int .i64 k ∧ ∀ b ∈ x.take k, signs.contains b = false) (fun i => x.length - (intOf i).toNat)
      case atStart => exact ⟨0, Nat.zero_le _, rfl, by simp⟩
      case round =>
        obtain ⟨k, hk, rfl, hns⟩ := hrel
        rcases Nat.lt_or_ge k x.length with hlt | hge
        · have g1 : (k : Int) < (x.length : Int) := by omega
          have g2 : (0 : Int) ≤ (k : Int) := by omega
          have g3 : (k : Int) ≤ (k : Int) + 1 := by omega
          have g4 : (k : Int) + 1 ≤ (x.length : Int) := by omega
          have g5 : (0 : Int) ≤ (k : Int) + 1 := by omega
          have tn : ((k : Int) + 1).toNat = k + 1 := by omega
          have pk : IntKind.i64.wrap ((k : Int) + 1) = (k : Int) + 1 := by simp only [IntKind.wrap_i64]; omega
          have HCO := hideP (Any.strings_Contains_one (P := Tryz.prog) (ρ := Tryz.containsL_ren) { Tryz.containsL with } ⟨#[61, 43, 60, 63]⟩ (x[k]'hlt) w4)
          have he := ext_one hlt
          rw [show (decide (0 ≤ indexByte (ByteArray.mk #[61, 43, 60, 63]).data.toList (x[k]'hlt))) = signs.contains (x[k]'hlt) from sign_has _] at HCO
          rw [show (ByteArray.mk #[x[k]'hlt]) = (bs x).extract k (k + 1) from he.symm] at HCO
          have hnx : ∀ b ∈ x.take (k + 1), b ∈ x.take k ∨ b = x[k]'hlt := fun b hb => by
            rw [List.take_succ_eq_append_getElem hlt] at hb
            rcases List.mem_append.1 hb with h | h
            · exact .inl h
            · exact .inr (List.mem_singleton.1 h)
          have hat := sgn_here hlt hns
          cases hsg : signs.contains (x[k]'hlt)
          · rw [hsg] at HCO
            have HNS := hideP (show ∀ b ∈ x.take (k + 1), signs.contains b = false from fun b hb => by
              rcases hnx b hb with h | h
              · exact hns b h
              · rw [h]; exact hsg)
            clear hns hnx hat he hsg
            go_wp2_with fail
            refine HCO.out.mono ?_
            rintro e w5 ⟨rfl, hw⟩
            rw [hw]
            clear hw HCO
            go_wp2_with fail
            go_round
            case rel => exact ⟨k + 1, by omega, by first | rfl | go_num, HNS.out⟩
            case measure => simp [intOf]; omega
          · rw [hsg] at HCO
            have HAT := hideP (hat hsg)
            have hsg2 := hideP hsg
            clear hns hnx hat he hsg
            go_wp2_with fail
            refine HCO.out.mono ?_
            rintro e w5 ⟨rfl, hw⟩
            rw [hw]
            clear hw HCO w5
            have hkey : (bs x).extract 0 k = bs (x.take k) := ba_ext (by simp [bs])
            have hrst : (bs x).extract (k + 1) (bs x).size = bs (x.drop (k + 1)) := by
              refine ba_ext ?_
              have h1 : ((bs x).extract (k + 1) (bs x).size).data.toList = (x.drop (k + 1)).take ((bs x).size - (k + 1)) := by simp [bs]
              rw [h1, bs_size, List.take_of_length_le (by simp)]; rfl
            have hxk : ((bs x)[k]'(show k < (bs x).size from hlt)) = x[k]'hlt := rfl
            have hcs : (x[k]'hlt) = 61 ∨ (x[k]'hlt) = 43 ∨ (x[k]'hlt) = 63 ∨ (x[k]'hlt) = 60 := by
              have h := hsg2.out
              simp only [signs, List.contains_cons, List.contains_nil, Bool.or_eq_true, beq_iff_eq, Bool.false_eq_true, or_false] at h
              rcases h with h | h | h | h <;> simp [h]
            rcases hcs with hcv | hcv | hcv | hcv
            · have hks : (((k : Nat) : Int) == (((bs x).size : Nat) : Int)) = false := by rw [bs_size]; simp; omega
              have hq61 : (((x[k]'hlt).toNat : Int) == 61) = true := by rw [hcv]; rfl
              have HPR := hideP (show prO x = (rdN (x.drop (k + 1))).map fun n => ⟨1, bs (x.take k), ByteArray.empty, n⟩ by
                unfold prO; rw [HAT.out, hcv]; rfl)
              clear hcv
              go_wp2_with fail
              have b5 := (Below.refl w4.heap.size w4).alloc (Nat.le_refl _) (.cells #[.int .i64 1, .string (bs (x.take k)), .string ⟨#[]⟩, .int .i64 0] 93)
              have xo := Box.new w4 93 #[.int .i64 1, .string (bs (x.take k)), .string ⟨#[]⟩, .int .i64 0]
              have HNU := hideP (rnum_any (bs (x.drop (k + 1))))
              rw [bs_data] at HNU
              refine (HNU.out _).mono ?_
              generalize w4.alloc _ = w5 at b5 xo ⊢
              rintro e w6 ⟨⟨z, rfl, hz⟩, hb6⟩
              have b6 := b5.trans (hb6.mono b5.size)
              have xo6 := xo.below hb6
              have b7 := below_set1 (i := 3) (v := .int .i64 z) b6 (Nat.le_refl _)
              have hM7 := hM4.out.below b7
              have z3 := xo6.cell 3 (v := .int .i64 0) rfl
              have f3 := xo6.frozen 3
              have xo7 := xo6.set 3 (.int .i64 z)
              clear hkey hrst hxk b5 xo hb6 HNU b6 b7 xo6
              generalize hgo : w4.heap.size = go at xo7 hM7 z3 f3 ⊢
              cases hn : rdN (x.drop (k + 1)) with
              | none =>
                have HV := hideP (show rdD L = (9, []) from rdD_none (by rw [HRD.out, HPR.out, hn]; rfl))
                have t0 := hM7.res.cell 0 rfl
                have t1 := hM7.res.frozen 0
                have R := hM7.res.set 0 (.slice none 0 0)
                have q0 := R.cell 0 rfl
                have HF := hideP (below_set1 (i := 0) (v := .slice none 0 0) hM7.bel hM7.lowr)
                clear R hM7 xo7 hz hn
                go_wp2_with fail
                exact bodyPost_ret (v := .tuple #[.agg #[.slice none 0 0], .int .i64 9]) (by simp [results, Tryz.results15, go_sem, q0]) rfl (by rw [HL.out]; exact ⟨none, 0, [], by rw [HV.out]; rfl, by rw [HV.out], OO.nil _ _, HF.out⟩)
              | some y =>
                have hzy := hz y hn
                subst hzy
                have HRD2 := hideP (show prOs [] (spl 59 L) = prOs (d ++ [⟨1, bs (x.take k), ByteArray.empty, z⟩]) (if more then spl 59 r else []) by rw [HRD.out, HPR.out, hn]; rfl)
                have o0 := xo7.cell 0 (v := .int .i64 1) rfl
                have o1 := xo7.cell 1 (v := .string (bs (x.take k))) rfl
                have o2 := xo7.cell 2 (v := .string ⟨#[]⟩) rfl
                have o3 := xo7.cell 3 (v := .int .i64 z) rfl
                have m0 := hM7.box.cell 0 rfl
                obtain ⟨D', c', a1, hrun, hbx, hM2⟩ := hM7.add ⟨1, bs (x.take k), ByteArray.empty, z⟩ hdl
                rw [show (w6.setCell ⟨go, 3, none⟩ (.int .i64 z)).heap.size = w6.heap.size by simp [World.setCell]] at hrun
                have HRN := hideP hrun
                have m1 := hbx.cell 0 rfl
                have m2 := hbx.frozen 0
                clear hrun hbx hz hn hM7 xo7
                go_wp2_with (at_builtin; first | refine Lib.wpList_append_run _ rfl _ _ _ _ rfl _ _ rfl rfl _ _ HRN.out ?_)
                go_roundw
                case rel => exact ⟨bs r, more, D', c', _, _, rfl, rfl, (by rw [List.length_append, List.length_singleton] at hM2; exact hM2), HRD2.out, rfl, by have := HLN.out; simp; omega⟩
                case measure => exact HM.out
            · have hks : (((k : Nat) : Int) == (((bs x).size : Nat) : Int)) = false := by rw [bs_size]; simp; omega
              have hq61 : (((x[k]'hlt).toNat : Int) == 61) = false := by rw [hcv]; rfl
              have hq43 : (((x[k]'hlt).toNat : Int) == 43) = true := by rw [hcv]; rfl
              have HPR := hideP (show prO x = (rdN (x.drop (k + 1))).map fun n => ⟨2, bs (x.take k), ByteArray.empty, n⟩ by
                unfold prO; rw [HAT.out, hcv]; rfl)
              clear hcv
              go_wp2_with fail
              have b5 := (Below.refl w4.heap.size w4).alloc (Nat.le_refl _) (.cells #[.int .i64 2, .string (bs (x.take k)), .string ⟨#[]⟩, .int .i64 0] 93)
              have xo := Box.new w4 93 #[.int .i64 2, .string (bs (x.take k)), .string ⟨#[]⟩, .int .i64 0]
              have HNU := hideP (rnum_any (bs (x.drop (k + 1))))
              rw [bs_data] at HNU
              refine (HNU.out _).mono ?_
              generalize w4.alloc _ = w5 at b5 xo ⊢
              rintro e w6 ⟨⟨z, rfl, hz⟩, hb6⟩
              have b6 := b5.trans (hb6.mono b5.size)
              have xo6 := xo.below hb6
              have b7 := below_set1 (i := 3) (v := .int .i64 z) b6 (Nat.le_refl _)
              have hM7 := hM4.out.below b7
              have z3 := xo6.cell 3 (v := .int .i64 0) rfl
              have f3 := xo6.frozen 3
              have xo7 := xo6.set 3 (.int .i64 z)
              clear hkey hrst hxk b5 xo hb6 HNU b6 b7 xo6
              generalize hgo : w4.heap.size = go at xo7 hM7 z3 f3 ⊢
              cases hn : rdN (x.drop (k + 1)) with
              | none =>
                have HV := hideP (show rdD L = (9, []) from rdD_none (by rw [HRD.out, HPR.out, hn]; rfl))
                have t0 := hM7.res.cell 0 rfl
                have t1 := hM7.res.frozen 0
                have R := hM7.res.set 0 (.slice none 0 0)
                have q0 := R.cell 0 rfl
                have HF := hideP (below_set1 (i := 0) (v := .slice none 0 0) hM7.bel hM7.lowr)
                clear R hM7 xo7 hz hn
                go_wp2_with fail
                exact bodyPost_ret (v := .tuple #[.agg #[.slice none 0 0], .int .i64 9]) (by simp [results, Tryz.results15, go_sem, q0]) rfl (by rw [HL.out]; exact ⟨none, 0, [], by rw [HV.out]; rfl, by rw [HV.out], OO.nil _ _, HF.out⟩)
              | some y =>
                have hzy := hz y hn
                subst hzy
                have HRD2 := hideP (show prOs [] (spl 59 L) = prOs (d ++ [⟨2, bs (x.take k), ByteArray.empty, z⟩]) (if more then spl 59 r else []) by rw [HRD.out, HPR.out, hn]; rfl)
                have o0 := xo7.cell 0 (v := .int .i64 2) rfl
                have o1 := xo7.cell 1 (v := .string (bs (x.take k))) rfl
                have o2 := xo7.cell 2 (v := .string ⟨#[]⟩) rfl
                have o3 := xo7.cell 3 (v := .int .i64 z) rfl
                have m0 := hM7.box.cell 0 rfl
                obtain ⟨D', c', a1, hrun, hbx, hM2⟩ := hM7.add ⟨2, bs (x.take k), ByteArray.empty, z⟩ hdl
                rw [show (w6.setCell ⟨go, 3, none⟩ (.int .i64 z)).heap.size = w6.heap.size by simp [World.setCell]] at hrun
                have HRN := hideP hrun
                have m1 := hbx.cell 0 rfl
                have m2 := hbx.frozen 0
                clear hrun hbx hz hn hM7 xo7
                go_wp2_with (at_builtin; first | refine Lib.wpList_append_run _ rfl _ _ _ _ rfl _ _ rfl rfl _ _ HRN.out ?_)
                go_roundw
                case rel => exact ⟨bs r, more, D', c', _, _, rfl, rfl, (by rw [List.length_append, List.length_singleton] at hM2; exact hM2), HRD2.out, rfl, by have := HLN.out; simp; omega⟩
                case measure => exact HM.out
            · have hks : (((k : Nat) : Int) == (((bs x).size : Nat) : Int)) = false := by rw [bs_size]; simp; omega
              have hq61 : (((x[k]'hlt).toNat : Int) == 61) = false := by rw [hcv]; rfl
              have hq43 : (((x[k]'hlt).toNat : Int) == 43) = false := by rw [hcv]; rfl
              have hq63 : (((x[k]'hlt).toNat : Int) == 63) = true := by rw [hcv]; rfl
              have HPR := hideP (show prO x = (rdN (x.drop (k + 1))).map fun n => ⟨4, bs (x.take k), ByteArray.empty, n⟩ by
                unfold prO; rw [HAT.out, hcv]; rfl)
              clear hcv
              go_wp2_with fail
              have b5 := (Below.refl w4.heap.size w4).alloc (Nat.le_refl _) (.cells #[.int .i64 4, .string (bs (x.take k)), .string ⟨#[]⟩, .int .i64 0] 93)
              have xo := Box.new w4 93 #[.int .i64 4, .string (bs (x.take k)), .string ⟨#[]⟩, .int .i64 0]
              have HNU := hideP (rnum_any (bs (x.drop (k + 1))))
              rw [bs_data] at HNU
              refine (HNU.out _).mono ?_
              generalize w4.alloc _ = w5 at b5 xo ⊢
              rintro e w6 ⟨⟨z, rfl, hz⟩, hb6⟩
              have b6 := b5.trans (hb6.mono b5.size)
              have xo6 := xo.below hb6
              have b7 := below_set1 (i := 3) (v := .int .i64 z) b6 (Nat.le_refl _)
              have hM7 := hM4.out.below b7
              have z3 := xo6.cell 3 (v := .int .i64 0) rfl
              have f3 := xo6.frozen 3
              have xo7 := xo6.set 3 (.int .i64 z)
              clear hkey hrst hxk b5 xo hb6 HNU b6 b7 xo6
              generalize hgo : w4.heap.size = go at xo7 hM7 z3 f3 ⊢
              cases hn : rdN (x.drop (k + 1)) with
              | none =>
                have HV := hideP (show rdD L = (9, []) from rdD_none (by rw [HRD.out, HPR.out, hn]; rfl))
                have t0 := hM7.res.cell 0 rfl
                have t1 := hM7.res.frozen 0
                have R := hM7.res.set 0 (.slice none 0 0)
                have q0 := R.cell 0 rfl
                have HF := hideP (below_set1 (i := 0) (v := .slice none 0 0) hM7.bel hM7.lowr)
                clear R hM7 xo7 hz hn
                go_wp2_with fail
                exact bodyPost_ret (v := .tuple #[.agg #[.slice none 0 0], .int .i64 9]) (by simp [results, Tryz.results15, go_sem, q0]) rfl (by rw [HL.out]; exact ⟨none, 0, [], by rw [HV.out]; rfl, by rw [HV.out], OO.nil _ _, HF.out⟩)
              | some y =>
                have hzy := hz y hn
                subst hzy
                have HRD2 := hideP (show prOs [] (spl 59 L) = prOs (d ++ [⟨4, bs (x.take k), ByteArray.empty, z⟩]) (if more then spl 59 r else []) by rw [HRD.out, HPR.out, hn]; rfl)
                have o0 := xo7.cell 0 (v := .int .i64 4) rfl
                have o1 := xo7.cell 1 (v := .string (bs (x.take k))) rfl
                have o2 := xo7.cell 2 (v := .string ⟨#[]⟩) rfl
                have o3 := xo7.cell 3 (v := .int .i64 z) rfl
                have m0 := hM7.box.cell 0 rfl
                obtain ⟨D', c', a1, hrun, hbx, hM2⟩ := hM7.add ⟨4, bs (x.take k), ByteArray.empty, z⟩ hdl
                rw [show (w6.setCell ⟨go, 3, none⟩ (.int .i64 z)).heap.size = w6.heap.size by simp [World.setCell]] at hrun
                have HRN := hideP hrun
                have m1 := hbx.cell 0 rfl
                have m2 := hbx.frozen 0
                clear hrun hbx hz hn hM7 xo7
                go_wp2_with (at_builtin; first | refine Lib.wpList_append_run _ rfl _ _ _ _ rfl _ _ rfl rfl _ _ HRN.out ?_)
                go_roundw
                case rel => exact ⟨bs r, more, D', c', _, _, rfl, rfl, (by rw [List.length_append, List.length_singleton] at hM2; exact hM2), HRD2.out, rfl, by have := HLN.out; simp; omega⟩
                case measure => exact HM.out
            · have hks : (((k : Nat) : Int) == (((bs x).size : Nat) : Int)) = false := by rw [bs_size]; simp; omega
              have hq61 : (((x[k]'hlt).toNat : Int) == 61) = false := by rw [hcv]; rfl
              have hq43 : (((x[k]'hlt).toNat : Int) == 43) = false := by rw [hcv]; rfl
              have hq63 : (((x[k]'hlt).toNat : Int) == 63) = false := by rw [hcv]; rfl
              have HPR := hideP (show prO x = rdF (x.take k) (x.drop (k + 1)) by
                unfold prO; rw [HAT.out, hcv]; rfl)
              clear hcv
              have hrl : (x.drop (k + 1)).length ≤ x.length := by simp
              go_wp2_with fail
              have b5 := (Below.refl w4.heap.size w4).alloc (Nat.le_refl _) (.cells #[.int .i64 3, .string (bs (x.take k)), .string ⟨#[]⟩, .int .i64 0] 93)
              have xo := Box.new w4 93 #[.int .i64 3, .string (bs (x.take k)), .string ⟨#[]⟩, .int .i64 0]
              have HIB : ∀ wx, Calls Tryz.prog 81 #[.string (bs (x.drop (k + 1))), .int .u8 42] wx fun e w' => e = .returned (.int .i64 (indexByte (x.drop (k + 1)) 42)) ∧ w' = wx := fun wx => ibyte_any (bs (x.drop (k + 1))) 42 wx
              generalize x.drop (k + 1) = rs at hrl HPR hrst HIB ⊢
              refine (HIB _).mono ?_
              generalize w4.alloc _ = w5 at b5 xo ⊢
              rintro e w6 ⟨rfl, rfl⟩
              have z2 := xo.cell 2 (v := .string ⟨#[]⟩) rfl
              have f2 := xo.frozen 2
              have b7 := below_set1 (i := 2) (v := .string (bs rs)) b5 (Nat.le_refl _)
              have xo7 := xo.set 2 (.string (bs rs))
              have hM7 := hM4.out.below b7
              clear hkey hrst hxk b5 xo HIB
              generalize hgo : w4.heap.size = go at xo7 hM7 z2 f2 b7 ⊢
              rcases at_byte 42 rs with hst | ⟨f, a, rfl, hst⟩
              · rw [ibyte_no hst]
                have HRD2 := hideP (show prOs [] (spl 59 L) = prOs (d ++ [⟨3, bs (x.take k), bs rs, 0⟩]) (if more then spl 59 r else []) by rw [HRD.out, HPR.out, rdF, cut_no hst])
                have o0 := xo7.cell 0 (v := .int .i64 3) rfl
                have o1 := xo7.cell 1 (v := .string (bs (x.take k))) rfl
                have o2 := xo7.cell 2 (v := .string (bs rs)) rfl
                have o3 := xo7.cell 3 (v := .int .i64 0) rfl
                have m0 := hM7.box.cell 0 rfl
                obtain ⟨D', c', a1, hrun, hbx, hM2⟩ := hM7.add ⟨3, bs (x.take k), bs rs, 0⟩ hdl
                rw [show (w6.setCell ⟨go, 2, none⟩ (.string (bs rs))).heap.size = w6.heap.size by simp [World.setCell]] at hrun
                have HRN := hideP hrun
                have m1 := hbx.cell 0 rfl
                have m2 := hbx.frozen 0
                clear hrun hbx hM7 xo7 hst b7
                go_wp2_with (at_builtin; first | refine Lib.wpList_append_run _ rfl _ _ _ _ rfl _ _ rfl rfl _ _ HRN.out ?_)
                go_roundw
                case rel => exact ⟨bs r, more, D', c', _, _, rfl, rfl, (by rw [List.length_append, List.length_singleton] at hM2; exact hM2), HRD2.out, rfl, by have := HLN.out; simp; omega⟩
                case measure => exact HM.out
              · rw [ibyte_hit hst]
                have HPR2 := hideP (show prO x = (rdN a).map fun n => ⟨5, bs (x.take k), bs f, n⟩ by rw [HPR.out, rdF, cut_hit hst])
                have hfl : f.length + 1 + a.length ≤ 4294967280 := by simp at hrl; omega
                have hsz : (bs (f ++ 42 :: a)).size = f.length + (a.length + 1) := by simp [bs_size]
                have e1 : (bs (f ++ 42 :: a)).extract 0 f.length = bs f := ba_ext (by simp [bs])
                have e2 : (bs (f ++ 42 :: a)).extract (f.length + 1) (f.length + (a.length + 1)) = bs a := by
                  refine ba_ext ?_
                  have h1 : ((bs (f ++ 42 :: a)).extract (f.length + 1) (f.length + (a.length + 1))).data.toList = ((f ++ 42 :: a).drop (f.length + 1)).take (f.length + (a.length + 1) - (f.length + 1)) := by simp [bs]
                  rw [h1, show f ++ 42 :: a = (f ++ [42]) ++ a by simp, List.drop_left' (by simp), List.take_of_length_le (by omega)]; rfl
                have g0 : (0 : Int) ≤ (f.length : Int) := by omega
                have g1' : (f.length : Int) ≤ ((f.length + (a.length + 1) : Nat) : Int) := by omega
                have g3' : (0 : Int) ≤ (f.length : Int) + 1 := by omega
                have g4' : (f.length : Int) + 1 ≤ ((f.length + (a.length + 1) : Nat) : Int) := by omega
                have pw : IntKind.i64.wrap ((f.length : Int) + 1) = (f.length : Int) + 1 := by simp only [IntKind.wrap_i64]; omega
                have tn2 : ((f.length : Int) + 1).toNat = f.length + 1 := by omega
                have hlg : w4.heap.size ≤ go := by omega
                generalize f.length = nf at g0 g1' g3' g4' pw tn2 hsz e1 e2 ⊢
                generalize bs (f ++ 42 :: a) = sq at hsz e1 e2 z2 xo7 hM7 b7 ⊢
                go_wp2_with fail
                generalize w6.setCell ⟨go, 2, none⟩ (.string sq) = w7 at b7 xo7 hM7 ⊢
                have c0 := xo7.cell 0 (v := .int .i64 3) rfl
                have c2 := xo7.cell 2 (v := .string sq) rfl
                have fz0 := xo7.frozen 0
                have fz2 := xo7.frozen 2
                go_region
                have b7' : Below w4.heap.size w4 w7 := by rw [hgo]; exact b7
                have xo8 := ((xo7.set 0 (.int .i64 5)).set 2 (.string (bs f))).drew
                have b8 := (below_set1 (i := 2) (v := .string (bs f)) (below_set1 (i := 0) (v := .int .i64 5) b7' hlg) hlg).drew
                have hM8 := hM4.out.below b8
                clear c0 c2 fz0 fz2 xo7 hM7 b7 b7' g0 g1' g3' g4' pw tn2 hsz e1 e2 hfl hst hks hq61 hq43 hq63 g1 g2 g3 g4 g5 tn pk hrl HPR
                generalize ((w7.setCell ⟨go, 0, none⟩ (.int .i64 5)).setCell ⟨go, 2, none⟩ (.string (bs f))).drew = w8 at xo8 b8 hM8 ⊢
                have kc := xo8.cell 0 (v := .int .i64 5) rfl
                have HNU := hideP (rnum_any (bs a))
                rw [bs_data] at HNU
                go_wp2_with fail
                refine (HNU.out _).mono ?_
                rintro e w9 ⟨⟨z, rfl, hz⟩, hb9⟩
                have b9 := b8.trans (hb9.mono b8.size)
                have xo9 := xo8.below hb9
                have b10 := below_set1 (i := 3) (v := .int .i64 z) b9 hlg
                have hM7 := hM4.out.below b10
                have z3 := xo9.cell 3 (v := .int .i64 0) rfl
                have f3 := xo9.frozen 3
                have xo10 := xo9.set 3 (.int .i64 z)
                clear xo8 hb9 HNU b8 b9 b10 xo9 hM8 kc hM4
                cases hn : rdN a with
                | none =>
                  have HV := hideP (show rdD L = (9, []) from rdD_none (by rw [HRD.out, HPR2.out, hn]; rfl))
                  have t0 := hM7.res.cell 0 rfl
                  have t1 := hM7.res.frozen 0
                  have R := hM7.res.set 0 (.slice none 0 0)
                  have q0 := R.cell 0 rfl
                  have HF := hideP (below_set1 (i := 0) (v := .slice none 0 0) hM7.bel hM7.lowr)
                  clear R hM7 xo10 hz hn
                  go_wp2_with fail
                  exact bodyPost_ret (v := .tuple #[.agg #[.slice none 0 0], .int .i64 9]) (by simp [results, Tryz.results15, go_sem, q0]) rfl (by rw [HL.out]; exact ⟨none, 0, [], by rw [HV.out]; rfl, by rw [HV.out], OO.nil _ _, HF.out⟩)
                | some y =>
                  have hzy := hz y hn
                  subst hzy
                  have HRD2 := hideP (show prOs [] (spl 59 L) = prOs (d ++ [⟨5, bs (x.take k), bs f, z⟩]) (if more then spl 59 r else []) by rw [HRD.out, HPR2.out, hn]; rfl)
                  have o0 := xo10.cell 0 (v := .int .i64 5) rfl
                  have o1 := xo10.cell 1 (v := .string (bs (x.take k))) rfl
                  have o2 := xo10.cell 2 (v := .string (bs f)) rfl
                  have o3 := xo10.cell 3 (v := .int .i64 z) rfl
                  have m0 := hM7.box.cell 0 rfl
                  obtain ⟨D', c', a1, hrun, hbx, hM2⟩ := hM7.add ⟨5, bs (x.take k), bs f, z⟩ hdl
                  rw [show (w9.setCell ⟨go, 3, none⟩ (.int .i64 z)).heap.size = w9.heap.size by simp [World.setCell]] at hrun
                  have HRN := hideP hrun
                  have m1 := hbx.cell 0 rfl
                  have m2 := hbx.frozen 0
                  clear hrun hbx hz hn hM7 xo10
                  go_wp2_with (at_builtin; first | refine Lib.wpList_append_run _ rfl _ _ _ _ rfl _ _ rfl rfl _ _ HRN.out ?_)
                  go_roundw
                  case rel => exact ⟨bs r, more, D', c', _, _, rfl, rfl, (by rw [List.length_append, List.length_singleton] at hM2; exact hM2), HRD2.out, rfl, by have := HLN.out; simp; omega⟩
                  case measure => exact HM.out
        · have hke : k = x.length := by omega
          subst hke
          have HAT := hideP (show sgn x = none from sgn_end (by rwa [List.take_of_length_le (Nat.le_refl _)] at hns))
          clear hns
          have HV := hideP (show rdD L = (9, []) from rdD_none (by rw [HRD.out, show prO x = none by unfold prO; rw [HAT.out]]))
          have hM7 := hM4.out
          have g1 : ¬ (x.length < (bs x).size) := by rw [bs_size]; omega
          have g2 : (((x.length : Nat) : Int) == (((bs x).size : Nat) : Int)) = true := by rw [bs_size]; simp
          have g3 : ¬ (((x.length : Nat) : Int) < (((bs x).size : Nat) : Int)) := by rw [bs_size]; omega
          have g4 : decide (((x.length : Nat) : Int) < (((bs x).size : Nat) : Int)) = false := decide_eq_false g3
          have t0 := hM7.res.cell 0 rfl
          have t1 := hM7.res.frozen 0
          have R := hM7.res.set 0 (.slice none 0 0)
          have q0 := R.cell 0 rfl
          have HF := hideP (below_set1 (i := 0) (v := .slice none 0 0) hM7.bel hM7.lowr)
          clear R hM7
          go_wp2_with fail
          exact bodyPost_ret (v := .tuple #[.agg #[.slice none 0 0], .int .i64 9]) (by simp [results, Tryz.results15, go_sem, q0]) rfl (by rw [HL.out]; exact ⟨none, 0, [], by rw [HV.out]; rfl, by rw [HV.out], OO.nil _ _, HF.out⟩)
end Go.Proofs.YtmepmiokpcddbabGreatDoor
