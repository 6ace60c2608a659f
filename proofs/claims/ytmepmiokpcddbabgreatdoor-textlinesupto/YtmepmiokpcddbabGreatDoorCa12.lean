/-
  roref.MapText: what it writes.
  text.Sum: what it answers.
  roref.Sum: what it answers.
  roref.Line: what it writes.
-/
import Derived.Test.YtmepmiokpcddbabGreatDoorCa11
import Derived.Test.YtmepmiokpcddbabGreatDoorCa9
import Derived.Deep.RegionLaw
import Derived.Test.YtmepmiokpcddbabGreatDoorCa7
import Derived.Test.YtmepmiokpcddbabGreatDoorCa3
import Derived.Test.YtmepmiokpcddbabGreatDoorCa5
import Derived.Test.YtmepmiokpcddbabGreatDoorCa10
set_option linter.unusedVariables false
set_option linter.unusedSimpArgs false
namespace Go.Proofs.YtmepmiokpcddbabGreatDoor
open Go.RowKit
open Go.Lib hiding intOf

theorem step_append_runT {P : Program} (w : World) {ops : Array Oper} {o : Oper} {a : Act} {K : Act → World → Prop} {Q : Exit → Act → World → Prop} {E : Prop} (hgd : o.guard = none) (s x : Operand) (t tn : TypeId)
    (ho : o.op = .call { callee := .builtin .append, args := #[s, x], argTypes := #[t, tn] }) (vs vx : Value) (hs : a.eval s = vs) (hx : a.eval x = vx)
    (v' : Value) (w' : World) (hr : (Builtin.append_ #[t, tn] o.type #[vs, vx]).run P w = .ok v' w') (h : K (a.put o.dst v') w') :
    if Region.wanted o (yielded ops a.tmps) = true then Oper.wp P o a w K Q else E := by
  have hw : Region.wanted o (yielded ops a.tmps) = true := by simp [Region.wanted, hgd]
  rw [if_pos hw]
  exact Lib.wp_append_run w s x t tn ho vs vx hs hx v' w' hr h
set_option maxHeartbeats 2000000 in
set_option maxRecDepth 100000 in
theorem rmapT_any (m : Mp) (w : World) (hm : MS w m) (hc : chkM m.cs m.os = 0) :
    Calls Tryz.prog 14 #[.agg #[.slice m.A m.cs.length m.ca, .slice m.O m.os.length m.co]] w fun e w' => e = .returned (.string (bs (tM m.cs m.os))) ∧ Below w.heap.size w w' := by
  have b0 := (Below.refl w.heap.size w).alloc (Nat.le_refl _) (.cells #[.slice m.A m.cs.length m.ca, .slice m.O m.os.length m.co] 28)
  have x0 := Box.new w 28 #[.slice m.A m.cs.length m.ca, .slice m.O m.os.length m.co]
  have hm1 := hm.below b0
  have ho := hm.lo
  have hmo := hm.mo
  unfold maxLen at hmo
  obtain ⟨A, ca, cs, O, co, os⟩ := m
  simp only at hm1 b0 x0 hc ⊢
  have c0 := x0.cell 0 (v := .slice A cs.length ca) rfl
  have c1 := x0.cell 1 (v := .slice O os.length co) rfl
  have HO := hideP (chkM_ok.1 hc)
  have HC := hideP hc
  clear hc
  have hlen := HO.out.len
  have hfew := HO.out.few
  have hown := HO.out.own
  obtain ⟨b, o, e, hbl, q0⟩ := hm1.own 0 (os[0]'(by omega)) (show os[0]? = _ from List.getElem?_eq_getElem (by omega))
  simp only at e
  subst e
  have hz := hown os[0] (List.getElem_mem _)
  have HW0 := hideP (wsB_zero (cs := cs) (show 0 < os.length by omega))
  generalize os[0] = z at q0 hz HW0
  have g0 : (0 : Int) < (os.length : Int) := by omega
  rw [Nat.add_zero] at q0
  have HI := hideP (fun W => dec_any z (by omega) (by omega) W)
  have HLEN := hideP hlen
  clear hlen
  go_enter Tryz.func14, Tryz.ntmps14
  go_wp2_with fail
  refine (HI.out _).mono ?_
  clear hm
  generalize w.alloc (.cells #[.slice A cs.length ca, .slice (some ⟨b, o, none⟩) os.length co] 28) = w3 at b0 x0 hm1 c0 c1 q0 ⊢
  rintro e w4 ⟨rfl, hw⟩
  rw [← hw]
  clear hw w4
  have hlen := HLEN.out
  have e0 := c0
  have x3 := x0
  have hm3 := hm1
  have hlt3 := x3.lt
  have al := (Below.refl w3.heap.size w3).alloc (Nat.le_refl _) (.cells #[.string (bs (itoa z))] 9)
  have xs := Box.new w3 9 #[.string (bs (itoa z))]
  have HI0 := hideP (show MtI w3 cs os (.slice (some ⟨w3.heap.size, 0, none⟩) 1 1) (.int .i64 0) (w3.alloc (.cells #[.string (bs (itoa z))] 9)) from
    ⟨0, some ⟨w3.heap.size, 0, none⟩, 1, Nat.zero_le _, rfl, by rw [HW0.out]; rfl, by rw [HW0.out]; exact OR.of_box1 xs (Nat.le_refl _) (by simp [maxLen]), al⟩)
  clear c0 c1 hm1 x0 q0 HI xs hbl
  generalize bs (itoa z) = tz at HI0 al ⊢
  have e1 := (al.cell (p := ⟨w.heap.size, 0, none⟩) hlt3).trans e0
  go_wp2_with fail
  generalize w3.alloc (.cells #[.string tz] 9) = w4 at HI0 al e1 ⊢
  generalize hgg : w.heap.size = gx at hlt3 x3 e1 e0 ⊢
  have HB3 := hideP b0
  have HGG := hideP hgg
  clear b0 hgg e0
  go_loopw [3, 14] (MtI w3 cs os) (fun _ i _ => cs.length - (intOf i).toNat)
  case atStart => exact HI0.out
  case round =>
    obtain ⟨k, P, cp, hk, rfl, rfl, hor, hb⟩ := hrel
    by_cases hkl : k < cs.length
    · have g1 : (k : Int) < (cs.length : Int) := by omega
      have g2 : (0 : Int) ≤ (k : Int) := by omega
      have g3 : (0 : Int) ≤ (k : Int) + 1 := by omega
      have g4 : (k : Int) + 1 < (os.length : Int) := by omega
      have pk : IntKind.i64.wrap ((k : Int) + 1) = (k : Int) + 1 := by simp only [IntKind.wrap_i64]; omega
      obtain ⟨b1, o1, ea, hbl1, q1⟩ := (hm3.below hb).cuts k (.string cs[k]) (by simp [hkl])
      obtain ⟨b2, o2, eo, hbl2, q2⟩ := (hm3.below hb).own (k + 1) (os[k + 1]'(by omega)) (show os[k + 1]? = _ from List.getElem?_eq_getElem (by omega))
      simp only at ea eo
      subst ea
      injection eo with eo
      injection eo with eb eo _
      subst eb
      subst eo
      have hz2 := hown os[k + 1] (List.getElem_mem _)
      have hst := wsB_step hlen hkl (show k + 1 < os.length by omega)
      have hwl := wsB_len hlen hk
      generalize cs[k] = ck at q1 hst
      generalize os[k + 1] = ok at q2 hz2 hst
      have xk := x3.below hb
      have f1 := xk.cell 1 (v := .slice (some ⟨b, o, none⟩) os.length co) rfl
      have f0 := xk.cell 0 (v := .slice (some ⟨b1, o1, none⟩) cs.length ca) rfl
      have HI2 := hideP (fun W => dec_any ok (by omega) (by omega) W)
      have tn : ((k : Int) + 1).toNat = k + 1 := by omega
      have q2' : wr.cell? ⟨b, o + ((k : Int) + 1).toNat, none⟩ = some (.int .i64 ok) := by rw [tn]; exact q2
      have HST := hideP hst
      have HWL := hideP hwl
      clear hst hwl xk
      have hd0 := (Below.refl wr.heap.size wr).drew
      have hor5 := hor.below hd0
      have hbw := hb.drew
      obtain ⟨A', c', w6, hrun, hor6, hbl6, _, _⟩ := app_row (P := Tryz.prog) Tryz.underlying25 strInfo rfl wr.drew w3.heap.size 25 P cp _ hor5 [.string ck, .string (bs (itoa ok))] (by simp [Value.oneCell']) (by rw [List.length_map, HWL.out]; simp only [List.length_cons, List.length_nil]; omega) (by decide) hbw.size
      have hX : (wsB cs os k).map Value.string ++ [.string ck, .string (bs (itoa ok))] = (wsB cs os (k + 1)).map Value.string := by rw [HST.out]; simp
      rw [hX] at hrun hor6
      rw [List.length_map, List.length_map] at hrun
      have hb6 := hbl6 w3.heap.size w3 (Nat.le_refl _) hbw
      have HR := hideP hrun
      have HN := hideP (show MtI w3 cs os (.slice A' (wsB cs os (k + 1)).length c') (.int .i64 ((k : Int) + 1)) w6 from ⟨k + 1, A', c', by omega, by rw [Int.natCast_add]; rfl, rfl, hor6, hb6⟩)
      clear hrun hbl6 hor5 hor6 hb6 hor hX hd0 hbw
      generalize bs (itoa ok) = tk at HR HI2 ⊢
      go_wp2_with fail
      go_region_law (first
        | (refine step_append_runT _ rfl _ _ _ _ rfl _ _ rfl rfl _ _ HR.out ?_)
        | (go_simp
           go_at_call 76
           refine (HI2.out _).mono ?_
           rintro e wq ⟨rfl, rfl⟩))
      all_goals
        go_wp2_with fail
        go_roundw
        case rel => exact HN.out
        case measure => simp [intOf]; omega
    · have hke : k = cs.length := by omega
      subst hke
      have hwl := wsB_len hlen (Nat.le_refl cs.length)
      have hT : (tM cs os).length ≤ 252 := by
        have := body_len (x := ⟨true, [], cs, os⟩) HC.out
        simp only [bodyT, if_true, List.length_append] at this
        have h4 : mapW.length = 4 := rfl
        omega
      have HJ := hideP (join_any P cp (wsB cs os cs.length) ⟨#[58]⟩ wr hor.vs (by omega) (by omega) (by have := hor.caps.1; rwa [List.length_map] at this) (by rw [wsB_end hlen]; show (tM cs os).length ≤ _; omega))
      have HE := hideP (wsB_end hlen)
      clear hwl hT
      go_wp2_with fail
      refine HJ.out.mono ?_
      rintro e w5 ⟨rfl, hb5⟩
      rw [HE.out]
      have hb6 := HB3.out.trans ((hb.trans (hb5.mono hb.size)).mono HB3.out.size)
      go_wp2_with fail
      go_ret
      exact ⟨rfl, hb6⟩
end Go.Proofs.YtmepmiokpcddbabGreatDoor

set_option linter.unusedVariables false
set_option linter.unusedSimpArgs false
namespace Go.Proofs.YtmepmiokpcddbabGreatDoor
open Go.RowKit
open Go.Lib hiding intOf

theorem sm_next (s : ByteArray) (k : Nat) (h : k < s.size) : sm (s.data.toList.take (k + 1)) = (sm (s.data.toList.take k) + (s[k]'h).toNat * (k + 1)) % 65521 := by
  have h' : k < s.data.toList.length := by simpa using h
  rw [sm_step h']; rfl
theorem wrap64_small {x : Int} (h0 : -9223372036854775808 ≤ x) (h1 : x ≤ 9223372036854775807) : wrap64 x = x := by
  have h : IntKind.i64.wrap x = x := by simp only [IntKind.wrap_i64]; omega
  first
  | exact h
  | (unfold wrap64; omega)
  | (simp only [wrap64]; omega)
set_option maxHeartbeats 1000000 in
theorem sum_any (s : ByteArray) (w : World) (hs : s.size ≤ 1099511627776) :
    Calls Tryz.prog 21 #[.string s] w fun e w' => e = .returned (.int .i64 (sm s.data.toList : Int)) ∧ w = w' := by
  go_enter Tryz.func21, Tryz.ntmps21
  go_wp2_with fail
  go_loop [3, 7] (fun a i => ∃ k : Nat, k ≤ s.size ∧ i = .int .i64 k ∧ a = .int .i64 (sm (s.data.toList.take k) : Int)) (fun _ i => s.size - (intOf i).toNat)
  case atStart => exact ⟨0, Nat.zero_le _, rfl, rfl⟩
  case round =>
    obtain ⟨k, hk, rfl, rfl⟩ := hrel
    by_cases hlt : k < s.size
    · have hlt' : (k : Int) < (s.size : Int) := by omega
      have hst := sm_next s k hlt
      have hS := sm_lt (s.data.toList.take k)
      have hB := (s[k]'hlt).toNat_lt
      generalize sm (s.data.toList.take k) = S at hst hS ⊢
      obtain ⟨P, hP⟩ : ∃ P : Nat, (s[k]'hlt).toNat * (k + 1) = P := ⟨_, rfl⟩
      have hPb : P ≤ 255 * (k + 1) := by rw [← hP]; exact Nat.mul_le_mul_right _ (by omega)
      have p1 : IntKind.i64.wrap ((k : Int) + 1) = (k : Int) + 1 := by simp only [IntKind.wrap_i64]; omega
      have p0 : (((s[k]'hlt).toNat : Int) * ((k : Int) + 1)) = (P : Int) := by rw [← hP]; push_cast; rfl
      have p2 : IntKind.i64.wrap (P : Int) = (P : Int) := by simp only [IntKind.wrap_i64]; omega
      have p3 : IntKind.i64.wrap ((S : Int) + (P : Int)) = (S : Int) + (P : Int) := by simp only [IntKind.wrap_i64]; omega
      have p4 : ((S : Int) + (P : Int)).tmod 65521 = (((S + P) % 65521 : Nat) : Int) := by rw [Int.tmod_eq_emod_of_nonneg (by omega)]; omega
      have p5 : IntKind.i64.wrap (((S + P) % 65521 : Nat) : Int) = (((S + P) % 65521 : Nat) : Int) := by simp only [IntKind.wrap_i64]; omega
      have KEY := hideP (show (wrap64 ((S : Int) + wrap64 (wrap64 ((s[k]'hlt).toNat : Int) * ((k : Int) + 1)))).tmod 65521 = (((S + P) % 65521 : Nat) : Int) by
        rw [wrap64_small (x := ((s[k]'hlt).toNat : Int)) (by omega) (by omega), p0, wrap64_small (x := (P : Int)) (by omega) (by omega), wrap64_small (by omega) (by omega), p4])
      rw [hP] at hst
      have HST := hideP hst
      clear hst hP hS hB hPb
      go_wp2_with fail
      go_round
      case rel => exact ⟨k + 1, by omega, by go_num, by rw [HST.out, ← KEY.out]⟩
      case measure => simp [intOf]; omega
    · have hke : k = s.size := by omega
      subst hke
      have HE := hideP (show s.data.toList.take s.size = s.data.toList from List.take_of_length_le (by simp))
      rw [HE.out]
      generalize hS : sm s.data.toList = S at ⊢
      have HS := hideP hS
      clear hS
      go_wp2_with fail
      go_ret
      exact ⟨by rw [HS.out]; rfl, rfl⟩
end Go.Proofs.YtmepmiokpcddbabGreatDoor

set_option linter.unusedVariables false
set_option linter.unusedSimpArgs false
namespace Go.Proofs.YtmepmiokpcddbabGreatDoor
open Go.RowKit
open Go.Lib hiding intOf

theorem smB_next (s : ByteArray) (k : Nat) (h : k < s.size) : smB s.data.toList k = (smB s.data.toList (k + 1) + (k + 1) * (s[k]'h).toNat) % 65521 := by
  have h' : k < s.data.toList.length := by simpa using h
  rw [smB_step h']; rfl
theorem smB_lt (l : List UInt8) (k : Nat) : smB l k < 65521 := Nat.mod_lt _ (by decide)
set_option maxHeartbeats 1000000 in
theorem rsum_any (s : ByteArray) (w : World) (hs : s.size ≤ 1099511627776) :
    Calls Tryz.prog 22 #[.string s] w fun e w' => e = .returned (.int .i64 (sm s.data.toList : Int)) ∧ w = w' := by
  go_enter Tryz.func22, Tryz.ntmps22
  go_wp2_with fail
  go_loop [3, 4] (fun a i => ∃ k : Nat, k ≤ s.size ∧ i = .int .i64 k ∧ a = .int .i64 (smB s.data.toList k : Int)) (fun _ i => (intOf i).toNat)
  case atStart => exact ⟨s.size, Nat.le_refl _, rfl, by have h := smB_end s.data.toList; rw [show s.data.toList.length = s.size by simp] at h; rw [h]; rfl⟩
  case round =>
    obtain ⟨k, hk, rfl, rfl⟩ := hrel
    rcases k with _ | m
    · rw [smB_zero]
      generalize hS : sm s.data.toList = S at ⊢
      have HS := hideP hS
      clear hS
      go_wp2_with fail
      go_ret
      exact ⟨by rw [HS.out]; rfl, rfl⟩
    · have hlt : m < s.size := by omega
      have hst := smB_next s m hlt
      have hS := smB_lt s.data.toList (m + 1)
      have hB := (s[m]'hlt).toNat_lt
      generalize smB s.data.toList (m + 1) = S at hst hS ⊢
      obtain ⟨P, hP⟩ : ∃ P : Nat, (m + 1) * (s[m]'hlt).toNat = P := ⟨_, rfl⟩
      have hPb : P ≤ (m + 1) * 255 := by rw [← hP]; exact Nat.mul_le_mul_left _ (by omega)
      have g1 : (0 : Int) < (m : Int) + 1 := by omega
      have g2 : (0 : Int) ≤ (m : Int) := by omega
      have g3 : (m : Int) < (s.size : Int) := by omega
      have p1 : IntKind.i64.wrap ((m : Int) + 1 - 1) = (m : Int) := by simp only [IntKind.wrap_i64]; omega
      have p2 : IntKind.i64.wrap (m : Int) = (m : Int) := by simp only [IntKind.wrap_i64]; omega
      have p0 : ((m : Int) + 1) * ((s[m]'hlt).toNat : Int) = (P : Int) := by rw [← hP]; push_cast; rfl
      have p4 : ((S : Int) + (P : Int)).tmod 65521 = (((S + P) % 65521 : Nat) : Int) := by rw [Int.tmod_eq_emod_of_nonneg (by omega)]; omega
      have KEY := hideP (show (wrap64 ((S : Int) + wrap64 (((m : Int) + 1) * wrap64 ((s[m]'hlt).toNat : Int)))).tmod 65521 = (((S + P) % 65521 : Nat) : Int) by
        rw [wrap64_small (x := ((s[m]'hlt).toNat : Int)) (by omega) (by omega), p0, wrap64_small (x := (P : Int)) (by omega) (by omega), wrap64_small (by omega) (by omega), p4])
      rw [hP] at hst
      have HST := hideP hst
      clear hst hP hS hB hPb p0 p4
      go_wp2_with fail
      go_round
      case rel => exact ⟨m, by omega, by first | rfl | go_num | simp, by rw [HST.out, ← KEY.out]⟩
      case measure => simp [intOf]
end Go.Proofs.YtmepmiokpcddbabGreatDoor

set_option linter.unusedVariables false
set_option linter.unusedSimpArgs false
namespace Go.Proofs.YtmepmiokpcddbabGreatDoor
open Go.RowKit
open Go.Lib hiding intOf

set_option maxHeartbeats 2000000 in
set_option maxRecDepth 100000 in
theorem rline_any (x : Em) (w : World) (hx : ES w x) (hc : chkE (entOf x) = 0) :
    Calls Tryz.prog 24 #[emV x] w fun e w' => e = .returned (.string (bs (entT (entOf x)))) ∧ Below w.heap.size w w' := by
  have b0 := (Below.refl w.heap.size w).alloc (Nat.le_refl _) (.cells (emC x) 45)
  have x0 := Box.new w 45 (emC x)
  have hx1 := hx.below b0
  have hsz : (bs (bodyT (entOf x))).size ≤ 256 := body_len hc
  have hsm := sm_lt (bodyT (entOf x))
  have hsi := itoa_size (n := (sm (bodyT (entOf x)) : Int)) (by omega) (by omega)
  have HSU := hideP (fun W => rsum_any (bs (bodyT (entOf x))) W (by omega))
  rw [bs_data] at HSU
  have HDE := hideP (fun W => dec_any (sm (bodyT (entOf x)) : Int) (by omega) (by omega) W)
  have HE := hideP (show (bs (entT (entOf x))).data.toList = (bs (bodyT (entOf x))).data.toList ++ 32 :: ((bs (itoa (sm (bodyT (entOf x)) : Int))).data.toList ++ [10]) from rfl)
  clear hsm
  obtain ⟨tb, htb⟩ : ∃ t, t = bs (bodyT (entOf x)) := ⟨_, rfl⟩
  rw [← htb] at hsz HSU HE
  generalize bs (itoa (sm (bodyT (entOf x)) : Int)) = ti at hsi HDE HE
  generalize (sm (bodyT (entOf x)) : Int) = zz at HSU HDE
  generalize hout : bs (entT (entOf x)) = out at HE
  have HO := hideP hout
  clear hout
  obtain ⟨D, c, d, isM, ⟨A, ca, cs, O, co, os⟩⟩ := x
  unfold emV
  unfold emC at b0 x0 hx1 ⊢
  simp only at b0 x0 hx1 ⊢
  have c0 := x0.cell 0 (v := .slice D d.length c) rfl
  have c1 := x0.cell 1 (v := .bool isM) rfl
  have c2 := x0.cell 2 (v := .slice A cs.length ca) rfl
  have c3 := x0.cell 3 (v := .slice O os.length co) rfl
  cases isM
  · have e1 : bs (tD d) = tb := by rw [htb]; rfl
    have HT := hideP (rtext_any D c d _ hx1.ops (show chkD d = 0 from hc))
    rw [e1] at HT
    clear htb e1 hx hx1 x0
    go_enter Tryz.func24, Tryz.ntmps24
    go_wp2_with fail
    refine HT.out.mono ?_
    clear HT
    generalize w.alloc _ = w1 at b0 ⊢
    rintro e w2 ⟨rfl, hb2⟩
    have b2 := b0.trans (hb2.mono b0.size)
    clear c0 c1 c2 c3
    go_wp2_with (first
      | (go_at_call 22; refine (HSU.out _).mono ?_; rintro e w3 ⟨rfl, rfl⟩)
      | (go_at_call 76; refine (HDE.out _).mono ?_; rintro e w3 ⟨rfl, rfl⟩))
    all_goals
      first
      | (exfalso; rename_i hbig; simp at hbig; omega)
      | (go_ret
         refine ⟨?_, b2⟩
         have e : out = tb ++ ⟨#[32]⟩ ++ ti ++ ⟨#[10]⟩ := ba_ext (by rw [HE.out]; simp)
         rw [e]
         rfl)
  · have e1 : (⟨#[109, 97, 112, 32]⟩ : ByteArray) ++ bs (tM cs os) = tb := by rw [htb]; exact ba_ext (by simp [bs, bodyT, entOf, mapW])
    have hs2 : (bs (tM cs os)).size ≤ 256 := by have := congrArg ByteArray.size e1; rw [ByteArray.size_append] at this; omega
    have HT := hideP (rmapT_any _ _ hx1.map (show chkM cs os = 0 from hc))
    simp only at HT
    have HE1 := hideP e1
    clear htb e1 hx hx1 x0
    go_enter Tryz.func24, Tryz.ntmps24
    go_wp2_with fail
    refine HT.out.mono ?_
    clear HT
    generalize w.alloc _ = w1 at b0 ⊢
    rintro e w2 ⟨rfl, hb2⟩
    have b2 := b0.trans (hb2.mono b0.size)
    clear c0 c1 c2 c3
    have nb0 : ¬ (9223372036854775807 < 4 + (bs (tM cs os)).size) := by omega
    go_wp2_with fail
    rw [HE1.out]
    go_wp2_with (first
      | (go_at_call 22; refine (HSU.out _).mono ?_; rintro e w3 ⟨rfl, rfl⟩)
      | (go_at_call 76; refine (HDE.out _).mono ?_; rintro e w3 ⟨rfl, rfl⟩))
    all_goals
      first
      | (exfalso; rename_i hbig; simp at hbig; omega)
      | (go_ret
         refine ⟨?_, b2⟩
         have e : out = tb ++ ⟨#[32]⟩ ++ ti ++ ⟨#[10]⟩ := ba_ext (by rw [HE.out]; simp)
         rw [e]
         rfl)
end Go.Proofs.YtmepmiokpcddbabGreatDoor
