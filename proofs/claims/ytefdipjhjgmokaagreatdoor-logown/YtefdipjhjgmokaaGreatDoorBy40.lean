/-
  text.Deed: what it writes.
  text.Map: what it writes.
  text.bodyText and text.Entry: what they write.
-/
import Derived.Test.YtefdipjhjgmokaaGreatDoorBy38
import Derived.Test.YtefdipjhjgmokaaGreatDoorBy39
import Derived.Test.YtefdipjhjgmokaaGreatDoorBy6
import Derived.Test.YtefdipjhjgmokaaGreatDoorBy5
import Derived.Test.YtefdipjhjgmokaaGreatDoorBy2
set_option linter.unusedVariables false
set_option linter.unusedSimpArgs false
namespace Go.Proofs.YtefdipjhjgmokaaGreatDoor
open Go.RowKit
open Go.Lib hiding intOf

/-- what Deed answers -/
def ddA (d : List Opr) : ByteArray := if chkD d = 0 then bs (tD d) else ByteArray.empty
def wdD (d : List Opr) (k : Nat) : List ByteArray := (d.take k).map fun o => bs (opT o)
theorem wdD_step {d : List Opr} {k : Nat} (h : k < d.length) : wdD d (k + 1) = wdD d k ++ [bs (opT d[k])] := by
  unfold wdD; rw [List.take_succ_eq_append_getElem h, List.map_append]; rfl
theorem wdD_end (d : List Opr) : (wdD d d.length).map (·.data.toList) = d.map opT := by
  unfold wdD; rw [List.take_of_length_le (Nat.le_refl _), List.map_map]; rfl
theorem wdD_len {d : List Opr} {k : Nat} (h : k ≤ d.length) : (wdD d k).length = k := by unfold wdD; simp; omega
/-- while the words are gathered -/
def DtI (w2 : World) (d : List Opr) (s i : Value) (wr : World) : Prop :=
  ∃ (k : Nat) (A : Option Addr) (c : Nat), k ≤ d.length ∧ i = .int .i64 k ∧ s = .slice A (wdD d k).length c ∧ OR wr w2.heap.size 9 A c ((wdD d k).map Value.string) ∧ Below w2.heap.size w2 wr
set_option maxHeartbeats 2000000 in
set_option maxRecDepth 100000 in
theorem deedT_any (D : Option Addr) (cd : Nat) (d : List Opr) (w : World) (hD : OS w w.heap.size D d) (hN : ∀ o ∈ d, -9223372036854775808 ≤ o.n ∧ o.n ≤ 9223372036854775807) (hg : Gl w) :
    Calls Tryz.prog 66 #[.agg #[.slice D d.length cd]] w fun e w' => e = .returned (.tuple #[.string (ddA d), .int .i64 (chkD d)]) ∧ Below w.heap.size w w' := by
  have b0 := (Below.refl w.heap.size w).alloc (Nat.le_refl _) (.cells #[.slice D d.length cd] 40)
  have x0 := Box.new w 40 #[.slice D d.length cd]
  have hD1 := hD.go b0
  have hg1 := hg.below b0
  have HQ := hideP (dcheck_any D cd d _ hD1)
  have c0 := x0.cell 0 (v := .slice D d.length cd) rfl
  go_enter Tryz.func66, Tryz.ntmps66
  go_wp2_with fail
  refine HQ.out.mono ?_
  clear HQ hD hg
  generalize w.alloc (.cells #[.slice D d.length cd] 40) = w1 at b0 x0 hD1 hg1 c0 ⊢
  rintro e w2 ⟨rfl, hb2⟩
  have b2 := b0.trans (hb2.mono b0.size)
  by_cases hc : chkD d = 0
  · have HV := hideP (show ddA d = bs (tD d) by unfold ddA; rw [if_pos hc])
    obtain ⟨hd1, hd8, hdo⟩ := chkD_zero.1 hc
    rw [hc]
    have HC := hideP hc
    clear hc
    have x2 := x0.below hb2
    have hD2 := hD1.go hb2
    have hg2 := hg1.below hb2
    have d0 := x2.cell 0 (v := .slice D d.length cd) rfl
    have HB2 := hideP b2
    clear b0 x0 hD1 hg1 c0 hb2 b2
    generalize hgx : w.heap.size = gx at x2 d0 ⊢
    have HGX := hideP hgx
    clear hgx
    go_wp2_with fail
    go_loopw [5, 16] (DtI w2 d) (fun _ i _ => d.length - (intOf i).toNat)
    case atStart => exact ⟨0, none, 0, Nat.zero_le _, rfl, rfl, OR.nil _ _ _, Below.refl _ _⟩
    case round =>
      obtain ⟨k, P, cp, hk, rfl, rfl, hor, hb⟩ := hrel
      by_cases hkl : k < d.length
      · have hchk := hdo _ (List.getElem_mem hkl)
        obtain ⟨b, o, rfl, hbl, q1, q2, q3, q4⟩ := (hD2.below hb) k _ (List.getElem?_eq_getElem hkl)
        have hst := wdD_step hkl
        have hwl := wdD_len hk
        have hnn := hN _ (List.getElem_mem hkl)
        generalize d[k] = p at hchk q1 q2 q3 q4 hst hnn
        have hba := hb.alloc hb.size (.cells #[.int .i64 p.kind, .string p.key, .string p.src, .int .i64 p.n] 71)
        have hora := hor.below ((Below.refl _ wr).alloc (Nat.le_refl _) (.cells #[.int .i64 p.kind, .string p.key, .string p.src, .int .i64 p.n] 71))
        have hga := hg2.below hba
        have g1 : (k : Int) < (d.length : Int) := by omega
        have g2 : (0 : Int) ≤ (k : Int) := by omega
        have HT := hideP (opText_any p _ hga hchk hnn.1 hnn.2)
        unfold opV at HT
        have HST := hideP hst
        have HWL := hideP hwl
        obtain ⟨kd, key, src, n⟩ := p
        simp only at q1 q2 q3 q4 hba hora HT HST
        clear hst hwl hor hchk d0 x2 hga hnn
        go_wp2_with fail
        refine HT.out.mono ?_
        clear HT
        generalize wr.alloc (.cells #[.int .i64 kd, .string key, .string src, .int .i64 n] 71) = w4 at hba hora ⊢
        rintro e w5 ⟨rfl, hb5⟩
        have hor5 := hora.below hb5
        have hbw := hba.trans (hb5.mono hba.size)
        generalize bs (opT ⟨kd, key, src, n⟩) = tx at HST ⊢
        obtain ⟨A', c', w6, hrun, hor6, hbl6, _, _⟩ := app_row (P := Tryz.prog) Tryz.underlying32 strInfo rfl w5 w2.heap.size 32 P cp _ hor5 [.string tx] (by simp [Value.oneCell']) (by rw [List.length_map, HWL.out]; simp only [List.length_cons, List.length_nil]; omega) (by decide) hbw.size
        have hX : (wdD d k).map Value.string ++ [.string tx] = (wdD d (k + 1)).map Value.string := by rw [HST.out]; simp
        rw [hX] at hrun hor6
        rw [List.length_map, List.length_map] at hrun
        have hb6 := hbl6 w2.heap.size w2 (Nat.le_refl _) hbw
        have HR := hideP hrun
        clear hrun hbl6 hor5 hX hb5 hbw hora hba
        go_wp2_with (at_builtin; first | refine Lib.wpList_append_run _ rfl _ _ _ _ rfl _ _ rfl rfl _ _ HR.out ?_)
        go_roundw
        case rel => exact ⟨k + 1, A', c', by omega, by go_num, rfl, hor6, hb6⟩
        case measure => simp [intOf]; omega
      · have hke : k = d.length := by omega
        subst hke
        have hwl := wdD_len (d := d) (Nat.le_refl d.length)
        have hT : (tD d).length ≤ 256 := body_len (x := ⟨false, d, [], []⟩) HC.out
        have HJ := hideP (join_any P cp (wdD d d.length) ⟨#[59]⟩ wr hor.vs (by omega) (by omega) (by have := hor.caps.1; rwa [List.length_map] at this) (by rw [wdD_end]; show (tD d).length ≤ _; omega))
        have HE := hideP (wdD_end d)
        clear hwl hT
        go_wp2_with fail
        refine HJ.out.mono ?_
        rintro e w5 ⟨rfl, hb5⟩
        rw [HE.out]
        have hb6 := HB2.out.trans ((hb.trans (hb5.mono hb.size)).mono HB2.out.size)
        go_wp2_with fail
        go_ret2
        exact ⟨by rw [HV.out, HC.out]; rfl, hb6⟩
  · have HV := hideP (show ddA d = ByteArray.empty by unfold ddA; rw [if_neg hc])
    have d1 : (chkD d != 0) = true := by simpa using hc
    clear hc
    generalize hq : chkD d = q at d1 ⊢
    have HQ := hideP hq
    clear hq
    go_wp2_with fail
    go_ret2
    exact ⟨by rw [HV.out, HQ.out]; rfl, b2⟩
end Go.Proofs.YtefdipjhjgmokaaGreatDoor

set_option linter.unusedVariables false
set_option linter.unusedSimpArgs false
namespace Go.Proofs.YtefdipjhjgmokaaGreatDoor
open Go.RowKit
open Go.Lib hiding intOf

theorem wdT_snoc : ∀ (cs : List ByteArray) (os : List Int) (c : ByteArray) (o : Int), cs.length = os.length → wdT (cs ++ [c]) (os ++ [o]) = wdT cs os ++ [c.data.toList, itoa o]
  | [], [], c, o, _ => rfl
  | [], _ :: _, _, _, h => by simp at h
  | _ :: _, [], _, _, h => by simp at h
  | d :: cs, p :: os, c, o, h => by
    show d.data.toList :: itoa p :: wdT (cs ++ [c]) (os ++ [o]) = _
    rw [wdT_snoc cs os c o (by simpa using h)]; rfl
/-- the words so far -/
def wsB (cs : List ByteArray) (os : List Int) (k : Nat) : List ByteArray := (wdM (cs.take k) (os.take (k + 1))).map bs
theorem wsB_step {cs : List ByteArray} {os : List Int} {k : Nat} (h : os.length = cs.length + 1) (hk : k < cs.length) (hk2 : k + 1 < os.length) : wsB cs os (k + 1) = wsB cs os k ++ [cs[k], bs (itoa os[k + 1])] := by
  unfold wsB
  cases os with
  | nil => simp at h
  | cons o r =>
    have hl : cs.length = r.length := by simp at h; omega
    rw [List.take_succ_cons, List.take_succ_cons, wdM, wdM, List.take_succ_eq_append_getElem hk, List.take_succ_eq_append_getElem (show k < r.length by omega), wdT_snoc _ _ _ _ (by simp; omega)]
    simp [bs_of, bs_data]
theorem wsB_zero {cs : List ByteArray} {os : List Int} (h : 0 < os.length) : wsB cs os 0 = [bs (itoa os[0])] := by
  cases os with
  | nil => simp at h
  | cons o r => rfl
theorem wsB_end {cs : List ByteArray} {os : List Int} (h : os.length = cs.length + 1) : (wsB cs os cs.length).map (·.data.toList) = wdM cs os := by
  unfold wsB
  rw [List.take_of_length_le (Nat.le_refl _), List.take_of_length_le (by omega), List.map_map]
  exact List.map_id' _
theorem wsB_len {cs : List ByteArray} {os : List Int} {k : Nat} (h : os.length = cs.length + 1) (hk : k ≤ cs.length) : (wsB cs os k).length = 2 * k + 1 := by
  induction k with
  | zero => rw [wsB_zero (by omega)]; rfl
  | succ k ih => rw [wsB_step h (by omega) (by omega), List.length_append, ih (by omega)]; simp; omega
theorem OR.of_box1 {w : World} {g B : Nat} {t : TypeId} {cs : Array Value} (h : Box w g t cs) (hB : B ≤ g) (hl : cs.size ≤ maxLen) : OR w B t (some ⟨g, 0, none⟩) cs.size cs.toList := by
  unfold OR
  rw [Array.length_toList]
  exact ⟨by simp, .inr ⟨g, cs.size, cs, rfl, hB, h, Nat.le_refl _, hl, by simp, by rw [Nat.mul_one]; exact List.take_of_length_le (by simp)⟩⟩
/-- what Map answers -/
def mpA (cs : List ByteArray) (os : List Int) : ByteArray := if chkM cs os = 0 then bs (tM cs os) else ByteArray.empty
/-- while the words are gathered -/
def MtI (w2 : World) (cs : List ByteArray) (os : List Int) (s i : Value) (wr : World) : Prop :=
  ∃ (k : Nat) (A : Option Addr) (c : Nat), k ≤ cs.length ∧ i = .int .i64 k ∧ s = .slice A (wsB cs os k).length c ∧ OR wr w2.heap.size 9 A c ((wsB cs os k).map Value.string) ∧ Below w2.heap.size w2 wr
set_option maxHeartbeats 2000000 in
set_option maxRecDepth 100000 in
theorem mapT_any (m : Mp) (w : World) (hm : MS w m) (hg : Gl w) :
    Calls Tryz.prog 67 #[.agg #[.slice m.A m.cs.length m.ca, .slice m.O m.os.length m.co]] w fun e w' => e = .returned (.tuple #[.string (mpA m.cs m.os), .int .i64 (chkM m.cs m.os)]) ∧ Below w.heap.size w w' := by
  have b0 := (Below.refl w.heap.size w).alloc (Nat.le_refl _) (.cells #[.slice m.A m.cs.length m.ca, .slice m.O m.os.length m.co] 34)
  have x0 := Box.new w 34 #[.slice m.A m.cs.length m.ca, .slice m.O m.os.length m.co]
  have hm1 := hm.below b0
  have hg1 := hg.below b0
  have ho := hm.lo
  have hmo := hm.mo
  unfold maxLen at hmo
  have HQ := hideP (shcheck_any m (w.alloc (.cells #[.slice m.A m.cs.length m.ca, .slice m.O m.os.length m.co] 34)) hm1 (by omega))
  obtain ⟨A, ca, cs, O, co, os⟩ := m
  simp only at hm1 b0 x0 HQ ⊢
  have c0 := x0.cell 0 (v := .slice A cs.length ca) rfl
  have c1 := x0.cell 1 (v := .slice O os.length co) rfl
  go_enter Tryz.func67, Tryz.ntmps67
  go_wp2_with fail
  refine HQ.out.mono ?_
  clear HQ hm hg
  generalize w.alloc (.cells #[.slice A cs.length ca, .slice O os.length co] 34) = w1 at b0 x0 hm1 hg1 c0 c1 ⊢
  rintro e w2 ⟨rfl, hb2⟩
  have b2 := b0.trans (hb2.mono b0.size)
  by_cases hc : chkM cs os = 0
  · have HV := hideP (show mpA cs os = bs (tM cs os) by unfold mpA; rw [if_pos hc])
    have HO := hideP (chkM_ok.1 hc)
    rw [hc]
    have HC := hideP hc
    clear hc
    have x2 := x0.below hb2
    have hm2 := hm1.below hb2
    have hg2 := hg1.below hb2
    have d0 := x2.cell 0 (v := .slice A cs.length ca) rfl
    have d1 := x2.cell 1 (v := .slice O os.length co) rfl
    have hlen := HO.out.len
    have hfew := HO.out.few
    have hown := HO.out.own
    obtain ⟨b, o, e, hbl, q0⟩ := hm2.own 0 (os[0]'(by omega)) (show os[0]? = _ from List.getElem?_eq_getElem (by omega))
    simp only at e
    subst e
    have hz := hown os[0] (List.getElem_mem _)
    have HW0 := hideP (wsB_zero (cs := cs) (show 0 < os.length by omega))
    generalize os[0] = z at q0 hz HW0
    have g0 : (0 : Int) < (os.length : Int) := by omega
    rw [Nat.add_zero] at q0
    clear b0 x0 hm1 hg1 c0 c1 hb2
    have HI := hideP (itoa_any z (by omega) (by omega) w2 hg2)
    go_wp2_with fail
    refine HI.out.mono ?_
    rintro e w3 ⟨rfl, hb3⟩
    have b3 := b2.trans (hb3.mono b2.size)
    have x3 := x2.below hb3
    have hm3 := hm2.below hb3
    have hg3 := hg2.below hb3
    have e0 := x3.cell 0 (v := .slice (A) cs.length ca) rfl
    have hlt3 := x3.lt
    have al := (Below.refl w3.heap.size w3).alloc (Nat.le_refl _) (.cells #[.string (bs (itoa z))] 9)
    have xs := Box.new w3 9 #[.string (bs (itoa z))]
    have HI0 := hideP (show MtI w3 cs os (.slice (some ⟨w3.heap.size, 0, none⟩) 1 1) (.int .i64 0) (w3.alloc (.cells #[.string (bs (itoa z))] 9)) from
      ⟨0, some ⟨w3.heap.size, 0, none⟩, 1, Nat.zero_le _, rfl, by rw [HW0.out]; rfl, by rw [HW0.out]; exact OR.of_box1 xs (Nat.le_refl _) (by simp [maxLen]), al⟩)
    clear d0 d1 hm2 hg2 x2 q0 HI xs hbl
    generalize bs (itoa z) = tz at HI0 al ⊢
    have e1 := (al.cell (p := ⟨w.heap.size, 0, none⟩) hlt3).trans e0
    go_wp2_with fail
    generalize w3.alloc (.cells #[.string tz] 9) = w4 at HI0 al e1 ⊢
    generalize hgg : w.heap.size = gx at hlt3 x3 e1 e0 ⊢
    have HB3 := hideP b3
    have HGG := hideP hgg
    clear b2 b3 hgg e0 hb3
    go_loopw [5, 22] (MtI w3 cs os) (fun _ i _ => cs.length - (intOf i).toNat)
    case atStart => exact HI0.out
    case round =>
      obtain ⟨k, P, cp, hk, rfl, rfl, hor, hb⟩ := hrel
      by_cases hkl : k < cs.length
      · have g1 : (k : Int) < (cs.length : Int) := by omega
        have g2 : (0 : Int) ≤ (k : Int) := by omega
        have g3 : (0 : Int) ≤ (k : Int) + 1 := by omega
        have g4 : (k : Int) + 1 < (os.length : Int) := by omega
        have pk : IntKind.i64.wrap ((k : Int) + 1) = (k : Int) + 1 := by simp only [IntKind.wrap_i64]; omega
        obtain ⟨b1, o1, ea, hbl1, q1⟩ := (hm3.below hb).cuts k (.string cs[k]) (by simp [hkl])
        obtain ⟨b2, o2, eo, hbl2, q2⟩ := (hm3.below hb).own (k + 1) (os[k + 1]'(by omega)) (show os[k + 1]? = _ from List.getElem?_eq_getElem (by omega))
        simp only at ea eo
        subst ea
        injection eo with eo
        injection eo with eb eo _
        subst eb
        subst eo
        have hz2 := hown os[k + 1] (List.getElem_mem _)
        have hst := wsB_step hlen hkl (show k + 1 < os.length by omega)
        have hwl := wsB_len hlen hk
        generalize cs[k] = ck at q1 hst
        generalize os[k + 1] = ok at q2 hz2 hst
        have xk := x3.below hb
        have f1 := xk.cell 1 (v := .slice (some ⟨b, o, none⟩) os.length co) rfl
        have HI2 := hideP (itoa_any ok (by omega) (by omega) wr (hg3.below hb))
        have tn : ((k : Int) + 1).toNat = k + 1 := by omega
        have q2' : wr.cell? ⟨b, o + ((k : Int) + 1).toNat, none⟩ = some (.int .i64 ok) := by rw [tn]; exact q2
        have HST := hideP hst
        have HWL := hideP hwl
        clear hst hwl xk
        go_wp2_with fail
        refine HI2.out.mono ?_
        rintro e w5 ⟨rfl, hb5⟩
        have hor5 := hor.below hb5
        have hbw := hb.trans (hb5.mono hb.size)
        obtain ⟨A', c', w6, hrun, hor6, hbl6, _, _⟩ := app_row (P := Tryz.prog) Tryz.underlying32 strInfo rfl w5 w3.heap.size 32 P cp _ hor5 [.string ck, .string (bs (itoa ok))] (by simp [Value.oneCell']) (by rw [List.length_map, HWL.out]; simp only [List.length_cons, List.length_nil]; omega) (by decide) hbw.size
        have hX : (wsB cs os k).map Value.string ++ [.string ck, .string (bs (itoa ok))] = (wsB cs os (k + 1)).map Value.string := by rw [HST.out]; simp
        rw [hX] at hrun hor6
        rw [List.length_map, List.length_map] at hrun
        have hb6 := hbl6 w3.heap.size w3 (Nat.le_refl _) hbw
        have HR := hideP hrun
        clear hrun hbl6 hor5 hor hX hb5 hbw
        generalize bs (itoa ok) = tk at HR ⊢
        go_wp2_with (at_builtin; first | refine Lib.wpList_append_run _ rfl _ _ _ _ rfl _ _ rfl rfl _ _ HR.out ?_)
        go_roundw
        case rel => exact ⟨k + 1, A', c', by omega, by go_num, rfl, hor6, hb6⟩
        case measure => simp [intOf]; omega
      · have hke : k = cs.length := by omega
        subst hke
        have hwl := wsB_len hlen (Nat.le_refl cs.length)
        have hT : (tM cs os).length ≤ 252 := by
          have := body_len (x := ⟨true, [], cs, os⟩) HC.out
          simp only [bodyT, if_true, List.length_append] at this
          have h4 : mapW.length = 4 := rfl
          omega
        have HJ := hideP (join_any P cp (wsB cs os cs.length) ⟨#[58]⟩ wr hor.vs (by omega) (by omega) (by have := hor.caps.1; rwa [List.length_map] at this) (by rw [wsB_end hlen]; show (tM cs os).length ≤ _; omega))
        have HE := hideP (wsB_end hlen)
        clear hwl hT
        go_wp2_with fail
        refine HJ.out.mono ?_
        rintro e w5 ⟨rfl, hb5⟩
        rw [HE.out]
        have hb6 := HB3.out.trans ((hb.trans (hb5.mono hb.size)).mono HB3.out.size)
        go_wp2_with fail
        go_ret2
        exact ⟨by rw [HV.out, HC.out]; rfl, hb6⟩
  · have HV := hideP (show mpA cs os = ByteArray.empty by unfold mpA; rw [if_neg hc])
    have d1 : (chkM cs os != 0) = true := by simpa using hc
    clear hc
    generalize hq : chkM cs os = q at d1 ⊢
    have HQ := hideP hq
    clear hq
    go_wp2_with fail
    go_ret2
    exact ⟨by rw [HV.out, HQ.out]; rfl, b2⟩
end Go.Proofs.YtefdipjhjgmokaaGreatDoor

set_option linter.unusedVariables false
set_option linter.unusedSimpArgs false
namespace Go.Proofs.YtefdipjhjgmokaaGreatDoor
open Go.RowKit
open Go.Lib hiding intOf

/-- what bodyText answers -/
def boA (x : Ent) : ByteArray := if chkE x = 0 then bs (bodyT x) else ByteArray.empty
/-- what Entry answers -/
def enA (x : Ent) : ByteArray := if chkE x = 0 then bs (entT x) else ByteArray.empty
set_option maxHeartbeats 1000000 in
set_option maxRecDepth 100000 in
theorem body_any (x : Em) (w : World) (hx : ES w x) (hg : Gl w) :
    Calls Tryz.prog 86 #[emV x] w fun e w' => e = .returned (.tuple #[.string (boA (entOf x)), .int .i64 (chkE (entOf x))]) ∧ Below w.heap.size w w' := by
  have b0 := (Below.refl w.heap.size w).alloc (Nat.le_refl _) (.cells (emC x) 42)
  have x0 := Box.new w 42 (emC x)
  have hx1 := hx.below b0
  have hg1 := hg.below b0
  obtain ⟨D, c, d, isM, ⟨A, ca, cs, O, co, os⟩⟩ := x
  unfold emV
  unfold emC at b0 x0 hx1 hg1 ⊢
  simp only at b0 x0 hx1 hg1 ⊢
  have c0 := x0.cell 0 (v := .slice D d.length c) rfl
  have c1 := x0.cell 1 (v := .bool isM) rfl
  have c2 := x0.cell 2 (v := .slice A cs.length ca) rfl
  have c3 := x0.cell 3 (v := .slice O os.length co) rfl
  have HD := hideP (deedT_any D c d _ hx1.ops hx1.bd hg1)
  have HM := hideP (mapT_any _ _ hx1.map hg1)
  simp only at HM
  clear hx hx1 hg hg1 x0
  cases isM
  · have HV := hideP (show boA (entOf ⟨D, c, d, false, ⟨A, ca, cs, O, co, os⟩⟩) = ddA d from rfl)
    have HK := hideP (show chkE (entOf ⟨D, c, d, false, ⟨A, ca, cs, O, co, os⟩⟩) = chkD d from rfl)
    go_enter Tryz.func86, Tryz.ntmps86
    go_wp2_with fail
    refine HD.out.mono ?_
    clear HD HM
    generalize w.alloc _ = w1 at b0 ⊢
    rintro e w2 ⟨rfl, hb2⟩
    have b2 := b0.trans (hb2.mono b0.size)
    go_wp2_with fail
    go_ret2
    exact ⟨by rw [HV.out, HK.out]; rfl, b2⟩
  · have HK := hideP (show chkE (entOf ⟨D, c, d, true, ⟨A, ca, cs, O, co, os⟩⟩) = chkM cs os from rfl)
    go_enter Tryz.func86, Tryz.ntmps86
    go_wp2_with fail
    refine HM.out.mono ?_
    clear HD HM
    generalize w.alloc _ = w1 at b0 ⊢
    rintro e w2 ⟨rfl, hb2⟩
    have b2 := b0.trans (hb2.mono b0.size)
    by_cases hc : chkM cs os = 0
    · have HV := hideP (show boA (entOf ⟨D, c, d, true, ⟨A, ca, cs, O, co, os⟩⟩) = bs (mapW ++ tM cs os) by unfold boA; rw [if_pos (by rw [HK.out]; exact hc)]; rfl)
      have hva : mpA cs os = bs (tM cs os) := by unfold mpA; rw [if_pos hc]
      have hsz : (bs (tM cs os)).size ≤ 256 := by
        have := body_len (x := ⟨true, [], cs, os⟩) hc
        simp only [bodyT, if_true, List.length_append] at this
        rw [bs_size]; omega
      have HT := hideP (show (bs (tM cs os)).data.toList = tM cs os from rfl)
      rw [hva, hc]
      have HC := hideP hc
      clear hc hva
      generalize bs (tM cs os) = tx at hsz HT ⊢
      go_wp2_with fail
      all_goals
        first
        | (exfalso; rename_i hbig; simp at hbig; omega)
        | (go_ret2
           refine ⟨?_, b2⟩
           rw [HV.out, HK.out, HC.out]
           have e : bs (mapW ++ tM cs os) = ⟨#[109, 97, 112, 32]⟩ ++ tx := ba_ext (by simp [bs, mapW, HT.out])
           rw [e]
           rfl)
    · have HV := hideP (show boA (entOf ⟨D, c, d, true, ⟨A, ca, cs, O, co, os⟩⟩) = ByteArray.empty by unfold boA; rw [if_neg (by rw [HK.out]; exact hc)])
      have d1 : (chkM cs os != 0) = true := by simpa using hc
      clear hc
      generalize hq : chkM cs os = q at d1 HK ⊢
      clear hq
      go_wp2_with fail
      go_ret2
      exact ⟨by rw [HV.out, HK.out]; rfl, b2⟩
set_option maxHeartbeats 1000000 in
set_option maxRecDepth 100000 in
theorem entry_any (x : Em) (w : World) (hx : ES w x) (hg : Gl w) :
    Calls Tryz.prog 13 #[emV x] w fun e w' => e = .returned (.tuple #[.string (enA (entOf x)), .int .i64 (chkE (entOf x))]) ∧ Below w.heap.size w w' := by
  have b0 := (Below.refl w.heap.size w).alloc (Nat.le_refl _) (.cells (emC x) 42)
  have x0 := Box.new w 42 (emC x)
  have HQ := hideP (body_any x _ (hx.below b0) (hg.below b0))
  have hg1 := hg.below b0
  generalize hent : entOf x = en at HQ ⊢
  clear hent
  obtain ⟨D, c, d, isM, ⟨A, ca, cs, O, co, os⟩⟩ := x
  unfold emV at HQ ⊢
  unfold emC at b0 x0 HQ hg1 ⊢
  simp only at b0 x0 HQ hg1 ⊢
  have c0 := x0.cell 0 (v := .slice D d.length c) rfl
  have c1 := x0.cell 1 (v := .bool isM) rfl
  have c2 := x0.cell 2 (v := .slice A cs.length ca) rfl
  have c3 := x0.cell 3 (v := .slice O os.length co) rfl
  go_enter Tryz.func13, Tryz.ntmps13
  go_wp2_with fail
  refine HQ.out.mono ?_
  clear HQ x0 hx hg c0 c1 c2 c3
  generalize w.alloc _ = w1 at b0 hg1 ⊢
  rintro e w2 ⟨rfl, hb2⟩
  have b2 := b0.trans (hb2.mono b0.size)
  have hg2 := hg1.below hb2
  by_cases hc : chkE en = 0
  · have HV := hideP (show enA en = bs (entT en) by unfold enA; rw [if_pos hc])
    have hvb : boA en = bs (bodyT en) := by unfold boA; rw [if_pos hc]
    have hsz : (bs (bodyT en)).size ≤ 256 := body_len hc
    have hsm := sm_lt (bodyT en)
    have HS := hideP (sum_any (bs (bodyT en)) w2 (by omega))
    have HI := hideP (itoa_any (sm (bodyT en) : Int) (by omega) (by omega) w2 hg2)
    have hsi := itoa_size (n := (sm (bodyT en) : Int)) (by omega) (by omega)
    have HE := hideP (show (bs (entT en)).data.toList = (bs (bodyT en)).data.toList ++ 32 :: ((bs (itoa (sm (bodyT en) : Int))).data.toList ++ [10]) from rfl)
    rw [bs_data] at HS
    rw [hvb, hc]
    have HC := hideP hc
    clear hc hvb hb2 hsm
    generalize bs (itoa (sm (bodyT en) : Int)) = ti at hsi HI HE ⊢
    generalize (sm (bodyT en) : Int) = zz at HS HI
    generalize bs (bodyT en) = tb at hsz HS HE ⊢
    go_wp2_with (first
      | (go_at_call 77; refine HS.out.mono ?_; rintro e w3 ⟨rfl, rfl⟩)
      | (go_at_call 87; refine HI.out.mono ?_; rintro e w3 ⟨rfl, hb3⟩))
    all_goals
      first
      | (exfalso; rename_i hbig; simp at hbig; omega)
      | (go_ret2
         refine ⟨?_, b2.trans (hb3.mono b2.size)⟩
         rw [HV.out, HC.out]
         have e : bs (entT en) = tb ++ ⟨#[32]⟩ ++ ti ++ ⟨#[10]⟩ := ba_ext (by rw [HE.out]; simp)
         rw [e]
         rfl)
  · have HV := hideP (show enA en = ByteArray.empty by unfold enA; rw [if_neg hc])
    have d1 : (chkE en != 0) = true := by simpa using hc
    clear hc
    generalize boA en = tb at ⊢
    generalize hq : chkE en = q at d1 ⊢
    have HQ2 := hideP hq
    clear hq
    go_wp2_with fail
    go_ret2
    exact ⟨by rw [HV.out, HQ2.out]; rfl, b2⟩
end Go.Proofs.YtefdipjhjgmokaaGreatDoor
