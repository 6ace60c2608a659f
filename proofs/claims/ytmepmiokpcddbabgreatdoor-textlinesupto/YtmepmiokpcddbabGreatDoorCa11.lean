/-
  shard.isOwner and Check: what they answer.
  text.Map: what it writes.
-/
import Derived.Test.YtmepmiokpcddbabGreatDoorCa2
import Derived.Test.YtmepmiokpcddbabGreatDoorCa4
import Derived.Test.YtmepmiokpcddbabGreatDoorCa8
import Derived.Test.YtmepmiokpcddbabGreatDoorCa7
import Derived.Test.YtmepmiokpcddbabGreatDoorCa5
set_option linter.unusedVariables false
set_option linter.unusedSimpArgs false
namespace Go.Proofs.YtmepmiokpcddbabGreatDoor
open Go.RowKit

set_option maxHeartbeats 400000 in
theorem isown_any (n : Int) (w : World) :
    Calls Tryz.prog 94 #[.int .i64 n] w fun e w' => e = .returned (.bool (ownB n)) ∧ w = w' := by
  by_cases h1 : 0 ≤ n <;> by_cases h2 : n < 4
  all_goals
    go_enter Tryz.func94, Tryz.ntmps94
    go_wp2
    go_ret
    exact ⟨ret_bool (by have e : (n ≤ 3) = (n < 4) := propext (by omega); simp [ownB, h1, h2, e]), rfl⟩

theorem own_all_next {os : List Int} {k : Nat} (h : k < os.length) : (os.take (k + 1)).all ownB = ((os.take k).all ownB && ownB os[k]) := by
  rw [List.take_succ_eq_append_getElem h, List.all_append]; simp

set_option maxHeartbeats 1000000 in
set_option maxRecDepth 100000 in
theorem shcheck_any (m : Mp) (w : World) (hm : MS w m) (l2 : m.os.length ≤ 9223372036854775807) :
    Calls Tryz.prog 66 #[.agg #[.slice m.A m.cs.length m.ca, .slice m.O m.os.length m.co]] w fun e w' => e = .returned (.int .i64 (chkM m.cs m.os)) ∧ Below w.heap.size w w' := by
  have b0 := (Below.refl w.heap.size w).alloc (Nat.le_refl _) (.cells #[.slice m.A m.cs.length m.ca, .slice m.O m.os.length m.co] 28)
  have x0 := Box.new w 28 #[.slice m.A m.cs.length m.ca, .slice m.O m.os.length m.co]
  have hm1 := hm.below b0
  obtain ⟨A, ca, cs, O, co, os⟩ := m
  simp only at hm1 b0 x0 l2 ⊢
  have c0 := x0.cell 0 (v := .slice A cs.length ca) rfl
  have c1 := x0.cell 1 (v := .slice O os.length co) rfl
  have hlt := x0.lt
  clear hm
  go_enter Tryz.func66, Tryz.ntmps66
  by_cases h12 : 12 < cs.length
  · have g : (12 : Int) < (cs.length : Int) := by omega
    have HC := hideP (show chkM cs os = 2 by unfold chkM; rw [if_pos h12])
    clear h12
    go_wp2_with fail
    go_ret
    exact ⟨ret_int (by rw [HC.out]), b0⟩
  have g : ¬ (12 : Int) < (cs.length : Int) := by omega
  have pw : IntKind.i64.wrap ((cs.length : Int) + 1) = (cs.length : Int) + 1 := by simp only [IntKind.wrap_i64]; omega
  by_cases hl : os.length = cs.length + 1
  · have e1 : ((os.length : Int) != ((cs.length : Int) + 1)) = false := by simp; omega
    have HC := hideP (show chkM cs os = if cutsB ByteArray.empty cs = false then 3 else if os.all ownB = false then 1 else 0 by unfold chkM; rw [if_neg h12, if_neg (by simp [hl])])
    have HL := hideP hl
    clear hl h12
    go_wp2_with fail
    generalize w.alloc (.cells #[.slice A cs.length ca, .slice O os.length co] 28) = w1 at b0 x0 hm1 c0 c1 hlt ⊢
    have HB := hideP b0
    clear b0 x0
    generalize w.heap.size = g at c0 c1 hlt ⊢
    go_loopw [3, 23] (fun s i wr => ∃ (k : Nat) (bf : ByteArray), k ≤ cs.length ∧ i = .int .i64 k ∧ s = .string bf ∧ cutsB ByteArray.empty cs = cutsB bf (cs.drop k) ∧ w1 = wr) (fun _ i _ => cs.length - (intOf i).toNat)
    case atStart => exact ⟨0, ByteArray.empty, Nat.zero_le _, rfl, rfl, rfl, rfl⟩
    case round =>
      obtain ⟨k, bf, hk, rfl, rfl, hchk, rfl⟩ := hrel
      have HK := hideP hchk
      clear hchk
      by_cases hkl : k < cs.length
      · obtain ⟨b, o, e, hbl, q1⟩ := hm1.cuts k (.string cs[k]) (by simp [hkl])
        simp only at e
        subst e
        have HT := hideP (cutsB_next (last := bf) hkl)
        generalize cs[k] = c at q1 HT
        have g1 : (0 : Int) ≤ (k : Int) := by omega
        have g2 : (k : Int) < (cs.length : Int) := by omega
        go_wp2_with fail
        refine (key_any _ _).mono ?_
        rintro e w2 ⟨rfl, rfl⟩
        cases hkb : keyB c
        · have HKB := hideP hkb
          clear hkb
          go_wp2_with fail
          go_ret
          exact ⟨ret_int (by rw [HC.out, HK.out, HT.out, HKB.out]; rfl), HB.out⟩
        · have HKB := hideP hkb
          clear hkb
          cases hle : leB c bf
          · have HL2 := hideP (leB_no.1 hle)
            have d1 : Op.bytesLess c.toList bf.toList = false := by simp [leB] at hle; exact hle.1
            have d2 : (c.toList == bf.toList) = false := by simp [leB] at hle; simpa using hle.2
            clear hle
            go_wp2_with fail
            go_roundw
            case rel => exact ⟨k + 1, c, by omega, by go_num, rfl, by rw [HK.out, HT.out, HKB.out, HL2.out]; rfl, trivial⟩
            case measure => simp [intOf]; omega
          · have HL2 := hideP (leB_iff.1 hle)
            have d1 : (Op.bytesLess c.toList bf.toList || c.toList == bf.toList) = true := by simpa [leB] using hle
            clear hle
            go_wp2_with fail
            go_ret
            exact ⟨ret_int (by rw [HC.out, HK.out, HT.out, HL2.out]; simp), HB.out⟩
      · have HE := hideP (show cutsB ByteArray.empty cs = true by rw [HK.out, List.drop_of_length_le (by omega)]; rfl)
        have hi := hm1.own
        simp only at hi
        have hos : os.length ≤ 13 := by have := HL.out; omega
        clear hm1
        go_wp2_with fail
        go_loopw [40] (fun i wr => ∃ k : Nat, k ≤ os.length ∧ i = .int .i64 k ∧ (os.take k).all ownB = true ∧ w1 = wr) (fun i _ => os.length - (intOf i).toNat)
        case atStart => exact ⟨0, Nat.zero_le _, rfl, rfl, rfl⟩
        case round =>
          obtain ⟨j, hj, rfl, hown, rfl⟩ := hrel
          have HO := hideP hown
          clear hown
          by_cases hjl : j < os.length
          · obtain ⟨b, o, e, hbl, q1⟩ := hi j os[j] (by simp [hjl])
            subst e
            have HT := hideP (own_all_next hjl)
            have HM := hideP (fun (h : ownB os[j] = false) => show os.all ownB = false from by
              rw [List.all_eq_false]; exact ⟨os[j], List.getElem_mem hjl, by simp [h]⟩)
            generalize os[j] = c at q1 HT HM
            have g1 : (0 : Int) ≤ (j : Int) := by omega
            have g2 : (j : Int) < (os.length : Int) := by omega
            go_wp2_with fail
            refine (isown_any _ _).mono ?_
            rintro e w2 ⟨rfl, rfl⟩
            cases hin : ownB c
            · have HI := hideP hin
              clear hin
              go_wp2_with fail
              go_ret
              exact ⟨ret_int (by rw [HC.out, HE.out, HM.out HI.out]; rfl), HB.out⟩
            · have HI := hideP hin
              clear hin
              go_wp2_with fail
              go_roundw
              case rel => exact ⟨j + 1, by omega, by go_num, by rw [HT.out, HO.out, HI.out]; rfl, trivial⟩
              case measure => simp [intOf]; omega
          · have HA := hideP (show os.all ownB = true by have := HO.out; rwa [List.take_of_length_le (by omega)] at this)
            go_wp2_with fail
            go_ret
            exact ⟨ret_int (by rw [HC.out, HE.out, HA.out]; rfl), HB.out⟩
  · have e1 : ((os.length : Int) != ((cs.length : Int) + 1)) = true := by simp; omega
    have HC := hideP (show chkM cs os = 3 by unfold chkM; rw [if_neg h12, if_pos hl])
    clear hl h12
    go_wp2_with fail
    go_ret
    exact ⟨ret_int (by rw [HC.out]), b0⟩
end Go.Proofs.YtmepmiokpcddbabGreatDoor

set_option linter.unusedVariables false
set_option linter.unusedSimpArgs false
namespace Go.Proofs.YtmepmiokpcddbabGreatDoor
open Go.RowKit
open Go.Lib hiding intOf

theorem wdT_snoc : ∀ (cs : List ByteArray) (os : List Int) (c : ByteArray) (o : Int), cs.length = os.length → wdT (cs ++ [c]) (os ++ [o]) = wdT cs os ++ [c.data.toList, itoa o]
  | [], [], c, o, _ => rfl
  | [], _ :: _, _, _, h => by simp at h
  | _ :: _, [], _, _, h => by simp at h
  | d :: cs, p :: os, c, o, h => by
    show d.data.toList :: itoa p :: wdT (cs ++ [c]) (os ++ [o]) = _
    rw [wdT_snoc cs os c o (by simpa using h)]; rfl
/-- the words so far -/
def wsB (cs : List ByteArray) (os : List Int) (k : Nat) : List ByteArray := (wdM (cs.take k) (os.take (k + 1))).map bs
theorem wsB_step {cs : List ByteArray} {os : List Int} {k : Nat} (h : os.length = cs.length + 1) (hk : k < cs.length) (hk2 : k + 1 < os.length) : wsB cs os (k + 1) = wsB cs os k ++ [cs[k], bs (itoa os[k + 1])] := by
  unfold wsB
  cases os with
  | nil => simp at h
  | cons o r =>
    have hl : cs.length = r.length := by simp at h; omega
    rw [List.take_succ_cons, List.take_succ_cons, wdM, wdM, List.take_succ_eq_append_getElem hk, List.take_succ_eq_append_getElem (show k < r.length by omega), wdT_snoc _ _ _ _ (by simp; omega)]
    simp [bs_of, bs_data]
theorem wsB_zero {cs : List ByteArray} {os : List Int} (h : 0 < os.length) : wsB cs os 0 = [bs (itoa os[0])] := by
  cases os with
  | nil => simp at h
  | cons o r => rfl
theorem wsB_end {cs : List ByteArray} {os : List Int} (h : os.length = cs.length + 1) : (wsB cs os cs.length).map (·.data.toList) = wdM cs os := by
  unfold wsB
  rw [List.take_of_length_le (Nat.le_refl _), List.take_of_length_le (by omega), List.map_map]
  exact List.map_id' _
theorem wsB_len {cs : List ByteArray} {os : List Int} {k : Nat} (h : os.length = cs.length + 1) (hk : k ≤ cs.length) : (wsB cs os k).length = 2 * k + 1 := by
  induction k with
  | zero => rw [wsB_zero (by omega)]; rfl
  | succ k ih => rw [wsB_step h (by omega) (by omega), List.length_append, ih (by omega)]; simp; omega
theorem OR.of_box1 {w : World} {g B : Nat} {t : TypeId} {cs : Array Value} (h : Box w g t cs) (hB : B ≤ g) (hl : cs.size ≤ maxLen) : OR w B t (some ⟨g, 0, none⟩) cs.size cs.toList := by
  unfold OR
  rw [Array.length_toList]
  exact ⟨by simp, .inr ⟨g, cs.size, cs, rfl, hB, h, Nat.le_refl _, hl, by simp, by rw [Nat.mul_one]; exact List.take_of_length_le (by simp)⟩⟩
/-- what Map answers -/
def mpA (cs : List ByteArray) (os : List Int) : ByteArray := if chkM cs os = 0 then bs (tM cs os) else ByteArray.empty
/-- while the words are gathered -/
def MtI (w2 : World) (cs : List ByteArray) (os : List Int) (s i : Value) (wr : World) : Prop :=
  ∃ (k : Nat) (A : Option Addr) (c : Nat), k ≤ cs.length ∧ i = .int .i64 k ∧ s = .slice A (wsB cs os k).length c ∧ OR wr w2.heap.size 9 A c ((wsB cs os k).map Value.string) ∧ Below w2.heap.size w2 wr
set_option maxHeartbeats 2000000 in
set_option maxRecDepth 100000 in
theorem mapT_any (m : Mp) (w : World) (hm : MS w m) (hg : Gl w) :
    Calls Tryz.prog 7 #[.agg #[.slice m.A m.cs.length m.ca, .slice m.O m.os.length m.co]] w fun e w' => e = .returned (.tuple #[.string (mpA m.cs m.os), .int .i64 (chkM m.cs m.os)]) ∧ Below w.heap.size w w' := by
  have b0 := (Below.refl w.heap.size w).alloc (Nat.le_refl _) (.cells #[.slice m.A m.cs.length m.ca, .slice m.O m.os.length m.co] 28)
  have x0 := Box.new w 28 #[.slice m.A m.cs.length m.ca, .slice m.O m.os.length m.co]
  have hm1 := hm.below b0
  have hg1 := hg.below b0
  have ho := hm.lo
  have hmo := hm.mo
  unfold maxLen at hmo
  have HQ := hideP (shcheck_any m (w.alloc (.cells #[.slice m.A m.cs.length m.ca, .slice m.O m.os.length m.co] 28)) hm1 (by omega))
  obtain ⟨A, ca, cs, O, co, os⟩ := m
  simp only at hm1 b0 x0 HQ ⊢
  have c0 := x0.cell 0 (v := .slice A cs.length ca) rfl
  have c1 := x0.cell 1 (v := .slice O os.length co) rfl
  go_enter Tryz.func7, Tryz.ntmps7
  go_wp2_with fail
  refine HQ.out.mono ?_
  clear HQ hm hg
  generalize w.alloc (.cells #[.slice A cs.length ca, .slice O os.length co] 28) = w1 at b0 x0 hm1 hg1 c0 c1 ⊢
  rintro e w2 ⟨rfl, hb2⟩
  have b2 := b0.trans (hb2.mono b0.size)
  by_cases hc : chkM cs os = 0
  · have HV := hideP (show mpA cs os = bs (tM cs os) by unfold mpA; rw [if_pos hc])
    have HO := hideP (chkM_ok.1 hc)
    rw [hc]
    have HC := hideP hc
    clear hc
    have x2 := x0.below hb2
    have hm2 := hm1.below hb2
    have hg2 := hg1.below hb2
    have d0 := x2.cell 0 (v := .slice A cs.length ca) rfl
    have d1 := x2.cell 1 (v := .slice O os.length co) rfl
    have hlen := HO.out.len
    have hfew := HO.out.few
    have hown := HO.out.own
    obtain ⟨b, o, e, hbl, q0⟩ := hm2.own 0 (os[0]'(by omega)) (show os[0]? = _ from List.getElem?_eq_getElem (by omega))
    simp only at e
    subst e
    have hz := hown os[0] (List.getElem_mem _)
    have HW0 := hideP (wsB_zero (cs := cs) (show 0 < os.length by omega))
    generalize os[0] = z at q0 hz HW0
    have g0 : (0 : Int) < (os.length : Int) := by omega
    rw [Nat.add_zero] at q0
    clear b0 x0 hm1 hg1 c0 c1 hb2
    have HI := hideP (itoa_any z (by omega) (by omega) w2 hg2)
    go_wp2_with fail
    refine HI.out.mono ?_
    rintro e w3 ⟨rfl, hb3⟩
    have b3 := b2.trans (hb3.mono b2.size)
    have x3 := x2.below hb3
    have hm3 := hm2.below hb3
    have hg3 := hg2.below hb3
    have e0 := x3.cell 0 (v := .slice (A) cs.length ca) rfl
    have hlt3 := x3.lt
    have al := (Below.refl w3.heap.size w3).alloc (Nat.le_refl _) (.cells #[.string (bs (itoa z))] 9)
    have xs := Box.new w3 9 #[.string (bs (itoa z))]
    have HI0 := hideP (show MtI w3 cs os (.slice (some ⟨w3.heap.size, 0, none⟩) 1 1) (.int .i64 0) (w3.alloc (.cells #[.string (bs (itoa z))] 9)) from
      ⟨0, some ⟨w3.heap.size, 0, none⟩, 1, Nat.zero_le _, rfl, by rw [HW0.out]; rfl, by rw [HW0.out]; exact OR.of_box1 xs (Nat.le_refl _) (by simp [maxLen]), al⟩)
    clear d0 d1 hm2 hg2 x2 q0 HI xs hbl
    generalize bs (itoa z) = tz at HI0 al ⊢
    have e1 := (al.cell (p := ⟨w.heap.size, 0, none⟩) hlt3).trans e0
    go_wp2_with fail
    generalize w3.alloc (.cells #[.string tz] 9) = w4 at HI0 al e1 ⊢
    generalize hgg : w.heap.size = gx at hlt3 x3 e1 e0 ⊢
    have HB3 := hideP b3
    have HGG := hideP hgg
    clear b2 b3 hgg e0 hb3
    go_loopw [5, 22] (MtI w3 cs os) (fun _ i _ => cs.length - (intOf i).toNat)
    case atStart => exact HI0.out
    case round =>
      obtain ⟨k, P, cp, hk, rfl, rfl, hor, hb⟩ := hrel
      by_cases hkl : k < cs.length
      · have g1 : (k : Int) < (cs.length : Int) := by omega
        have g2 : (0 : Int) ≤ (k : Int) := by omega
        have g3 : (0 : Int) ≤ (k : Int) + 1 := by omega
        have g4 : (k : Int) + 1 < (os.length : Int) := by omega
        have pk : IntKind.i64.wrap ((k : Int) + 1) = (k : Int) + 1 := by simp only [IntKind.wrap_i64]; omega
        obtain ⟨b1, o1, ea, hbl1, q1⟩ := (hm3.below hb).cuts k (.string cs[k]) (by simp [hkl])
        obtain ⟨b2, o2, eo, hbl2, q2⟩ := (hm3.below hb).own (k + 1) (os[k + 1]'(by omega)) (show os[k + 1]? = _ from List.getElem?_eq_getElem (by omega))
        simp only at ea eo
        subst ea
        injection eo with eo
        injection eo with eb eo _
        subst eb
        subst eo
        have hz2 := hown os[k + 1] (List.getElem_mem _)
        have hst := wsB_step hlen hkl (show k + 1 < os.length by omega)
        have hwl := wsB_len hlen hk
        generalize cs[k] = ck at q1 hst
        generalize os[k + 1] = ok at q2 hz2 hst
        have xk := x3.below hb
        have f1 := xk.cell 1 (v := .slice (some ⟨b, o, none⟩) os.length co) rfl
        have HI2 := hideP (itoa_any ok (by omega) (by omega) wr (hg3.below hb))
        have tn : ((k : Int) + 1).toNat = k + 1 := by omega
        have q2' : wr.cell? ⟨b, o + ((k : Int) + 1).toNat, none⟩ = some (.int .i64 ok) := by rw [tn]; exact q2
        have HST := hideP hst
        have HWL := hideP hwl
        clear hst hwl xk
        go_wp2_with fail
        refine HI2.out.mono ?_
        rintro e w5 ⟨rfl, hb5⟩
        have hor5 := hor.below hb5
        have hbw := hb.trans (hb5.mono hb.size)
        obtain ⟨A', c', w6, hrun, hor6, hbl6, _, _⟩ := app_row (P := Tryz.prog) Tryz.underlying25 strInfo rfl w5 w3.heap.size 25 P cp _ hor5 [.string ck, .string (bs (itoa ok))] (by simp [Value.oneCell']) (by rw [List.length_map, HWL.out]; simp only [List.length_cons, List.length_nil]; omega) (by decide) hbw.size
        have hX : (wsB cs os k).map Value.string ++ [.string ck, .string (bs (itoa ok))] = (wsB cs os (k + 1)).map Value.string := by rw [HST.out]; simp
        rw [hX] at hrun hor6
        rw [List.length_map, List.length_map] at hrun
        have hb6 := hbl6 w3.heap.size w3 (Nat.le_refl _) hbw
        have HR := hideP hrun
        clear hrun hbl6 hor5 hor hX hb5 hbw
        generalize bs (itoa ok) = tk at HR ⊢
        go_wp2_with (at_builtin; first | refine Lib.wpList_append_run _ rfl _ _ _ _ rfl _ _ rfl rfl _ _ HR.out ?_)
        go_roundw
        case rel => exact ⟨k + 1, A', c', by omega, by go_num, rfl, hor6, hb6⟩
        case measure => simp [intOf]; omega
      · have hke : k = cs.length := by omega
        subst hke
        have hwl := wsB_len hlen (Nat.le_refl cs.length)
        have hT : (tM cs os).length ≤ 252 := by
          have := body_len (x := ⟨true, [], cs, os⟩) HC.out
          simp only [bodyT, if_true, List.length_append] at this
          have h4 : mapW.length = 4 := rfl
          omega
        have HJ := hideP (join_any P cp (wsB cs os cs.length) ⟨#[58]⟩ wr hor.vs (by omega) (by omega) (by have := hor.caps.1; rwa [List.length_map] at this) (by rw [wsB_end hlen]; show (tM cs os).length ≤ _; omega))
        have HE := hideP (wsB_end hlen)
        clear hwl hT
        go_wp2_with fail
        refine HJ.out.mono ?_
        rintro e w5 ⟨rfl, hb5⟩
        rw [HE.out]
        have hb6 := HB3.out.trans ((hb.trans (hb5.mono hb.size)).mono HB3.out.size)
        go_wp2_with fail
        go_ret2
        exact ⟨by rw [HV.out, HC.out]; rfl, hb6⟩
  · have HV := hideP (show mpA cs os = ByteArray.empty by unfold mpA; rw [if_neg hc])
    have d1 : (chkM cs os != 0) = true := by simpa using hc
    clear hc
    generalize hq : chkM cs os = q at d1 ⊢
    have HQ := hideP hq
    clear hq
    go_wp2_with fail
    go_ret2
    exact ⟨by rw [HV.out, HQ.out]; rfl, b2⟩
end Go.Proofs.YtmepmiokpcddbabGreatDoor
