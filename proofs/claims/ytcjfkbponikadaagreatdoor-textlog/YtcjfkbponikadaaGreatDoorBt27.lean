/-
  rokeep.TextLog: the walk.
  Slices of ints, and slices of slices of ints, that came in, opened.
-/
import Derived.Test.YtcjfkbponikadaaGreatDoorBt20
import Derived.Test.YtcjfkbponikadaaGreatDoorBt25
import Derived.Test.YtcjfkbponikadaaGreatDoorBt26
import Derived.Test.YtcjfkbponikadaaGreatDoorBt24
import Derived.ProofKit
import Derived.OpenShut
import Derived.Deep.Matrix
set_option linter.unusedVariables false
set_option linter.unusedSimpArgs false
namespace Go.Proofs.YtcjfkbponikadaaGreatDoor
open Go.RowKit
open Go.Lib hiding intOf

theorem indexByte_no {l : List UInt8} {c : UInt8} (h : c ∉ l) : indexByte l c = -1 := by
  induction l with
  | nil => rfl
  | cons b l ih =>
    simp only [List.mem_cons, not_or] at h
    rw [indexByte, ih h.2]
    have : (b == c) = false := by simpa using fun e => h.1 e.symm
    simp [this]
theorem ext_mid (s : ByteArray) (a b : Nat) : (s.extract a b).data.toList = (s.data.toList.take b).drop a := by
  rw [ByteArray.data_extract, Array.toList_extract, List.extract_eq_take_drop, List.drop_take]
theorem itoa_1012 : itoa (1012 : Int) = [49, 48, 49, 50] := by
  have h := itoa_nonneg 1012
  rw [decDigits, dif_neg (by decide), decDigits, dif_neg (by decide), decDigits, dif_neg (by decide), decDigits, dif_pos (by decide)] at h
  exact h
theorem itoa_one : itoa (1 : Int) = [49] := by
  have h := itoa_nonneg 1
  rw [decDigits_one (by decide)] at h
  exact h
def lgE : Ent := ⟨true, [], [], [1]⟩
theorem lg_chk : chkE lgE = 0 := by decide +kernel
theorem lg_text : enA lgE = ⟨#[109, 97, 112, 32, 49, 32, 49, 48, 49, 50, 10]⟩ := by
  unfold enA
  rw [if_pos lg_chk]
  refine ba_ext ?_
  have hb : bodyT lgE = [109, 97, 112, 32, 49] := by
    show mapW ++ join [itoa 1] [58] = _
    rw [itoa_one]; rfl
  have hs : sm [109, 97, 112, 32, 49] = 1012 := rfl
  show lnT (bodyT lgE) = _
  rw [hb, lnT, hs]
  rw [show ((1012 : Nat) : Int) = 1012 from rfl, itoa_1012]
  rfl
theorem lg_es {w : World} {g : Nat} (h : Box w g 3 #[.int .i64 1]) : ES w ⟨none, 0, [], true, ⟨none, 0, [], some ⟨g, 0, none⟩, 1, [1]⟩⟩ :=
  ⟨OS.nil, ⟨VS.nil, fun i z hz => by
    rcases i with _ | i
    · injection hz with hz; subst hz; exact ⟨g, 0, rfl, h.lt, h.cell 0 rfl⟩
    · simp at hz, Nat.zero_le _, Nat.le_refl _, by simp [maxLen], by simp [maxLen], (fun _ => rfl), (fun e => by cases e)⟩, by simp⟩
theorem bareE_len {x : Ent} (h : chkE x = 0) : (bareE x).d.length ≤ 8 := by
  obtain ⟨m, d, cs, os⟩ := x
  cases m
  · have := (chkD_zero.1 (show chkD d = 0 from h)).2.1
    show (d.map bare).length ≤ 8
    rw [List.length_map]; exact this
  · exact Nat.zero_le _
/-- while the lines are written -/
def TlI (w : World) (A : Option Addr) (c : Nat) (xs : List Em) (s i : Value) (wr : World) : Prop :=
  ∃ (k : Nat), k ≤ xs.length ∧ i = .int .i64 k ∧ s = .string (bs (logT ((xs.take k).map entOf))) ∧ EW wr w.heap.size A c xs ∧ Gl wr ∧ Below w.heap.size w wr
theorem logT_step {xs : List Em} {k : Nat} (h : k < xs.length) : bs (logT ((xs.take (k + 1)).map entOf)) = bs (logT ((xs.take k).map entOf)) ++ bs (entT (entOf xs[k])) := by
  rw [List.take_succ_eq_append_getElem h, List.map_append, List.map_singleton, logT_snoc]
  exact ba_ext (by simp [bs])
theorem logT_small {xs : List Em} (h : ∀ x ∈ xs, chkE (entOf x) = 0) (hl : xs.length ≤ 24) : (bs (logT (xs.map entOf))).size ≤ 7200 := by
  rw [bs_size]
  have := logT_len (xs.map entOf) (by simpa using h)
  rw [List.length_map] at this
  omega
set_option maxHeartbeats 8000000 in
set_option maxRecDepth 100000 in
theorem tlog_walk (A1 A2 : Option Addr) (c1 c2 : Nat) (cs ms : List Cl) (ci : Int) (w : World) (h1 : LS w A1 cs) (hl1 : cs.length ≤ c1) (hc1 : c1 ≤ 9223372036854775807) (hn1 : A1 = none → c1 = 0) (h2 : LS w A2 ms) (hg : Gl w) :
    Calls Tryz.prog 5 #[.slice A1 cs.length c1, .slice A2 ms.length c2, .int .i64 ci] w fun e w' => e = .returned (.bool true) ∧ Below w.heap.size w w' := by
  have b0 := (Below.refl w.heap.size w).alloc (Nat.le_refl _) (.cells #[.int .i64 1] 3)
  have x0 := Box.new w 3 #[.int .i64 1]
  have HE := hideP (entry_any ⟨none, 0, [], true, ⟨none, 0, [], some ⟨w.heap.size, 0, none⟩, 1, [1]⟩⟩ _ (lg_es x0) (hg.below b0))
  rw [show entOf ⟨none, 0, [], true, ⟨none, 0, [], some ⟨w.heap.size, 0, none⟩, 1, [1]⟩⟩ = lgE from rfl, lg_text, lg_chk] at HE
  unfold emV emC at HE
  simp only [List.length_nil, List.length_singleton] at HE
  clear x0
  go_enter Tryz.func5, Tryz.ntmps5
  go_wp2_with fail
  refine HE.out.mono ?_
  clear HE
  rintro e w1 ⟨rfl, hb1⟩
  have b1 := b0.trans (hb1.mono b0.size)
  clear b0 hb1
  have HN := hideP (entries_any A1 A2 c1 c2 cs ms w1 (h1.below b1) hl1 hc1 hn1 (h2.below b1))
  clear h1 h2 hl1 hc1 hn1
  have d0 : ((ByteArray.mk #[109, 97, 112, 32, 49, 32, 49, 48, 49, 50, 10]).toList == (ByteArray.mk #[109, 97, 112, 32, 49, 32, 49, 48, 49, 50, 10]).toList) = true := by simp
  go_wp2_with fail
  refine HN.out.mono ?_
  clear HN
  rintro e w2 ⟨A, c, xs, rfl, hW, hgd, hxl, hb2⟩
  have b2 := b1.trans (hb2.mono b1.size)
  have hg2 := hg.below b2
  have hx24 : xs.length ≤ 24 := by omega
  have hW2 := hW.mono b1.size
  have HCK := hideP (fun x (hx : x ∈ xs) => (hgd x hx).chk)
  clear hg hxl hW hgd b1 hb2 d0
  go_wp2_with fail
  go_loopw [9, 37] (TlI w A c xs) (fun _ i _ => xs.length - (intOf i).toNat)
  case atStart => exact ⟨0, Nat.zero_le _, rfl, rfl, hW2, hg2, b2⟩
  case round =>
    obtain ⟨k, hk, rfl, rfl, hW, hgl, hb⟩ := hrel
    clear hW2 hg2 b2
    by_cases hlt : k < xs.length
    · obtain ⟨bb, oo, hA, hbl, p0, p1, p2, p3⟩ := hW.el.cells k xs[k] (List.getElem?_eq_getElem hlt)
      have hes := hW.el.es _ (List.getElem_mem hlt)
      have hck := HCK.out _ (List.getElem_mem hlt)
      have HST := hideP (logT_step hlt)
      have hs1 := logT_small (xs := xs.take k) (fun x hx => HCK.out x (List.mem_of_mem_take hx)) (by simp; omega)
      have hs2 : (bs (entT (entOf xs[k]))).size ≤ 300 := by
        have := logT_len [entOf xs[k]] (by simpa using hck)
        simp [logT] at this
        rw [bs_size]; exact this
      subst hA
      generalize xs[k] = x at p0 p1 p2 p3 hes hck HST hs2
      have al := (Below.refl wr.heap.size wr).alloc (Nat.le_refl _) (.cells (emC x) 45)
      have hbA := hb.trans (al.mono hb.size)
      have HE := hideP (entry_any x _ (hes.below al) (hgl.below al))
      have hva : enA (entOf x) = bs (entT (entOf x)) := by unfold enA; rw [if_pos hck]
      rw [hva, hck] at HE
      have xe := Box.new wr 45 (emC x)
      have e0 := xe.cell 0 (v := .slice x.D x.d.length x.c) rfl
      have e1 := xe.cell 1 (v := .bool x.isM) rfl
      have e2 := xe.cell 2 (v := .slice x.m.A x.m.cs.length x.m.ca) rfl
      have e3 := xe.cell 3 (v := .slice x.m.O x.m.os.length x.m.co) rfl
      have hWA := hW.below al
      have hglA := hgl.below al
      clear hes hck hva xe al hW hgl hb
      generalize bs (entT (entOf x)) = tx at HE HST hs2
      generalize bs (logT ((xs.take k).map entOf)) = ts at HST hs1 ⊢
      have nb : ¬ (9223372036854775807 < ts.size + tx.size) := by omega
      have g0 : (0 : Int) ≤ (k : Int) := by omega
      have g1 : (k : Int) < (xs.length : Int) := by omega
      unfold emV at HE
      unfold emC at HE e0 e1 e2 e3 hWA hglA hbA
      go_wp2_with fail
      refine HE.out.mono ?_
      clear HE e0 e1 e2 e3
      rintro e w4 ⟨rfl, hb4⟩
      have hW4 := hWA.below hb4
      have hg4 := hglA.below hb4
      have b4 := hbA.trans (hb4.mono hbA.size)
      clear hWA hglA hbA hb4
      go_wp2_with fail
      go_roundw
      case rel => exact ⟨k + 1, by omega, by go_num, by rw [HST.out], hW4, hg4, b4⟩
      case measure => simp [intOf]; omega
    · have hke : k = xs.length := by omega
      subst hke
      rw [List.take_length]
      have hs1 := logT_small HCK.out hx24
      have HCE := hideP (show ∀ x ∈ xs.map entOf, chkE x = 0 by simpa using HCK.out)
      have HL := hideP (log_any (bs (logT (xs.map entOf))) wr hgl)
      unfold RetLg at HL
      rw [bs_data] at HL
      have HDA := hideP (bs_data (logT (xs.map entOf)))
      have HSZ := hideP (bs_size (logT (xs.map entOf)))
      have g20 : ¬ ((20000 : Int) < ((bs (logT (xs.map entOf))).size : Int)) := by omega
      have HLI := hideP (fun q ys k (h : LogIs (logT (xs.map entOf)) q ys k) => h.same (show LogIs (logT (xs.map entOf)) 0 ((xs.map entOf).map bareE) (logT (xs.map entOf)).length by
        have := log_is (xs.map entOf) [] HCE.out (by simp) (by simp; have := HSZ.out; omega)
        rw [List.append_nil] at this
        exact this))
      have HCUT := hideP (log_cut (xs.map entOf) HCE.out)
      have hxm : (xs.map entOf).length = xs.length := List.length_map _
      have HXM := hideP hxm
      clear hxm hW HCK
      generalize xs.map entOf = es at HL HDA HSZ HLI HCE HCUT HXM hs1 g20 ⊢
      generalize bs (logT es) = t at HL HDA HSZ hs1 g20 ⊢
      go_wp2_with fail
      refine HL.out.mono ?_
      clear HL
      rintro e w3 ⟨q, A3, c3, ys, k3, hLI, rfl, hW3, hb3⟩
      obtain ⟨rfl, hys, rfl⟩ := HLI.out _ _ _ hLI
      have b3 := hb.trans (hb3.mono hb.size)
      have hg3 := hgl.below hb3
      have hyl : ys.length = xs.length := by have := congrArg List.length hys; simp at this; rw [this]; exact HXM.out
      have d1 : (((logT es).length : Int) != (t.size : Int)) = false := by rw [HSZ.out]; simp
      have d2 : ((ys.length : Int) != (xs.length : Int)) = false := by rw [hyl]; simp
      have HYS := hideP hys
      have hW3' := hW3.mono hb.size
      clear hLI hys hb3 hb hgl HLI hyl hW3
      have HWI := hideP (within_any ci (t.size + 1) (by omega) (by omega) w3)
      have hjl := wi_lt ci (t.size + 1) (by omega)
      generalize wi ci (t.size + 1) = j at HWI hjl
      have pw : IntKind.i64.wrap ((t.size : Int) + 1) = (t.size : Int) + 1 := by simp only [IntKind.wrap_i64]; omega
      have HWI' := hideP (show Calls Tryz.prog 30 #[.int .i64 ci, .int .i64 ((t.size : Int) + 1)] w3 fun e w' => e = .returned (.int .i64 j) ∧ w3 = w' from HWI.out)
      clear HWI
      go_wp2_with fail
      refine HWI'.out.mono ?_
      rintro e w4 ⟨rfl, rfl⟩
      clear HWI' d1 d2
      obtain ⟨jj, rest, hjj, htk, hnr, hct⟩ := HCUT.out j
      have HL2 := hideP (log_any (t.extract 0 j) w3 hg3)
      have hex : (t.extract 0 j).data.toList = (logT es).take j := by rw [ext_take1, HDA.out]
      unfold RetLg at HL2
      rw [hex] at HL2
      have htl : ((logT es).take j).length = j := by rw [List.length_take]; have := HSZ.out; omega
      have HIS2 := hideP (show LogIs ((logT es).take j) 0 ((es.take jj).map bareE) (logT (es.take jj)).length by
        rw [htk]
        exact log_is (es.take jj) rest (fun x hx => HCE.out x (List.mem_of_mem_take hx)) hnr (by rw [← htk, htl]; omega))
      have hk2 : (logT (es.take jj)).length ≤ j := by
        have := congrArg List.length htk
        rw [htl, List.length_append] at this
        omega
      have HCO := hideP (fun W => Any.strings_Contains_one (P := Tryz.prog) (ρ := Tryz.containsL_ren) { Tryz.containsL with } (t.extract (logT (es.take jj)).length j) 10 W)
      have hdr : (t.extract (logT (es.take jj)).length j).data.toList = rest := by
        rw [ext_mid, HDA.out, htk, List.drop_left]
      rw [hdr, indexByte_no hnr] at HCO
      have HCU := hideP (fun W => Any.strings_Count_one (P := Tryz.prog) (ρ := Tryz.countL_ren) { Tryz.countL with } (t.extract 0 j) 10 W)
      rw [hex, show countByte ((logT es).take j) 10 = jj from hct] at HCU
      have HJJ := hideP (And.intro hjj HXM.out)
      have gj0 : (0 : Int) ≤ (j : Int) := by omega
      have gj1 : (j : Int) ≤ (t.size : Int) := by omega
      generalize (logT (es.take jj)).length = k2 at hk2 HIS2 HCO
      have gk0 : (0 : Int) ≤ (k2 : Int) := by omega
      have gk1 : (k2 : Int) ≤ (j : Int) := by omega
      have gk2 : ¬ (j : Int) < (k2 : Int) := by omega
      clear htk hex htl hdr hct hnr hjj HCUT HXM
      go_wp2_with fail
      refine HL2.out.mono ?_
      clear HL2
      rintro e w5 ⟨q2, A5, c5, zs, k5, hLI5, rfl, hW5, hb5⟩
      obtain ⟨rfl, hzs, rfl⟩ := hLI5.same HIS2.out
      have hzl : zs.length = jj := by
        have := congrArg List.length hzs
        simp at this
        rw [this]; have := HJJ.out.1; omega
      subst hzl
      have hyl : ys.length = es.length := by have := congrArg List.length HYS.out; simpa using this
      have hjy : zs.length ≤ ys.length := by rw [hyl]; exact HJJ.out.1
      have b5 := b3.trans (hb5.mono b3.size)
      have hEz := hW5.el
      have hEy := hW3'.el.below hb5
      have hcap := hW3'.caps
      have HSA := hideP (show sameL zs (ys.take zs.length) = true from sameL_true (by rw [hzs, List.map_take, List.map_take, HYS.out]))
      have HZD := hideP (show ∀ x ∈ zs, x.d.length < 4611686018427387904 from fun x hx => by
        have h1 : entOf x ∈ zs.map entOf := List.mem_map_of_mem hx
        rw [hzs] at h1
        obtain ⟨y, hy, e⟩ := List.mem_map.1 h1
        have h3 := bareE_len (HCE.out y (List.mem_of_mem_take hy))
        rw [e] at h3
        have : x.d.length ≤ 8 := h3
        omega)
      have HQ := hideP (fun W (h1 : EL W A5 zs) (h2 : EL W A3 (ys.take zs.length)) => eqfE_any A5 A3 c5 c3 zs (ys.take zs.length) W h1 h2 HZD.out (by have := HJJ.out; omega))
      rw [HSA.out, List.length_take, Nat.min_eq_left (by omega)] at HQ
      have HQ2 := hideP (HQ.out w5 hEz (hEy.take_ _))
      have hcz : zs.length ≤ c3 := by have := hcap.1; omega
      have gz0 : (0 : Int) ≤ (zs.length : Int) := by omega
      have gz1 : (zs.length : Int) ≤ (c3 : Int) := by omega
      clear hLI5 hzs HIS2 HYS hW5 hEz hEy HSA HZD HQ hb5 hW3' hyl hg3 HCE
      have hdec : decide ((0 : Int) ≤ -1) = false := by decide
      rw [hdec] at HCO
      clear hdec
      go_wp2_with fail
      refine (HCO.out _).mono ?_
      rintro e w6 ⟨rfl, rfl⟩
      go_wp2_with fail
      refine (HCU.out _).mono ?_
      rintro e w6 ⟨rfl, rfl⟩
      rcases A3 with _ | ⟨gb, go, gs⟩
      · have hc0 := hcap.2.2.1 rfl
        subst hc0
        have hz0 : zs.length = 0 := by omega
        obtain rfl := List.length_eq_zero_iff.1 hz0
        obtain rfl : ys = [] := List.length_eq_zero_iff.1 (by have := hcap.1; omega)
        clear hcap
        simp only [List.length_nil] at HQ2 ⊢
        go_wp2_with fail
        refine HQ2.out.mono ?_
        rintro e w7 ⟨rfl, hb7⟩
        have b7 := b5.trans (hb7.mono b5.size)
        go_wp2_with fail
        go_ret
        exact ⟨rfl, b7⟩
      · obtain ⟨g3, e3, _⟩ := hcap.2.2.2 _ rfl
        injection e3 with e4 e5 e6
        subst e4; subst e5; subst e6
        clear hcap
        go_wp2_with fail
        refine HQ2.out.mono ?_
        rintro e w7 ⟨rfl, hb7⟩
        have b7 := b5.trans (hb7.mono b5.size)
        go_wp2_with fail
        go_ret
        exact ⟨rfl, b7⟩
end Go.Proofs.YtcjfkbponikadaaGreatDoor

set_option linter.unusedVariables false
set_option linter.unusedSimpArgs false
namespace Go.Proofs.YtcjfkbponikadaaGreatDoor
open Go.RowKit Go.ChangeShapes Go.WideShapes Go.Deep

theorem lit_of_cell {W : World} {a : Addr} {v : Value} (h : W.cell? (a.add 0) = some v) : ∃ b o, a = ⟨b, o, none⟩ := by
  obtain ⟨b, o, sp⟩ := a
  have hsp : sp = none := by simpa [Addr.add] using World.cell?_spot h
  subst hsp
  exact ⟨b, o, rfl⟩
theorem open_is {H : Type} {enc : TypeId × Value → H} {W : World} {A : Option Addr} {len cap : Nat} {d : DataW H} {p : List MemPlace} (h : DataW.Trod enc Tryz.prog W 0 (fun _ => true) true 26 (.slice A len cap) d p) :
    ∃ ys : List Int, len = ys.length ∧ IS W A ys ∧ ys.length ≤ cap ∧ cap ≤ 9223372036854775807 ∧ (A = none → cap = 0) := by
  obtain ⟨fuel, hf⟩ := h
  rcases open_ints Tryz.underlying26 Tryz.underlying3 (by kernel_rfl) hf with ⟨hcs, _⟩ | ⟨x, l, c, zs, hcs, _, hl, hm, hz, _, hcell, hwz⟩
  · simp [Value.cells] at hcs
    obtain ⟨rfl, rfl, rfl⟩ := hcs
    exact ⟨[], rfl, fun i z hz => by simp at hz, by simp, by simp, fun _ => rfl⟩
  · simp [Value.cells] at hcs
    obtain ⟨rfl, rfl, rfl⟩ := hcs
    simp only [if_true] at hz
    refine ⟨zs.take len, by simp; omega, fun i z hi => ?_, by simp; omega, by unfold maxLen at hm; exact hm, fun e => by cases e⟩
    rw [List.getElem?_take] at hi
    split at hi
    · have hlt : i < zs.length := by omega
      have hc := hcell i hlt
      obtain ⟨b, o, rfl⟩ := lit_of_cell (hcell 0 (by omega))
      rw [Addr.add_lit] at hc
      refine ⟨b, o, rfl, cell_lt hc, ?_⟩
      rw [hc]
      simp [hlt] at hi
      simp [hlt, hi]
    · cases hi
theorem open_ls {H : Type} {enc : TypeId × Value → H} {W : World} {A : Option Addr} {len cap : Nat} {d : DataW H} {p : List MemPlace} (h : DataW.Trod enc Tryz.prog W 0 (fun _ => true) true 58 (.slice A len cap) d p) :
    ∃ cs : List Cl, len = cs.length ∧ LS W A cs ∧ cs.length ≤ cap ∧ cap ≤ 9223372036854775807 ∧ (A = none → cap = 0) := by
  obtain ⟨fuel, hf⟩ := h
  rcases open_int_rows Tryz.underlying58 Tryz.underlying26 Tryz.underlying3 (by kernel_rfl) (by kernel_rfl) hf with ⟨hcs, _⟩ | ⟨a, l, c, Ar, L, C, Z, hcs, _, hl, hm, _, hr⟩
  · simp [Value.cells] at hcs
    obtain ⟨rfl, rfl, rfl⟩ := hcs
    exact ⟨[], rfl, ⟨VS.nil, by simp⟩, by simp, by simp, fun _ => rfl⟩
  · simp [Value.cells] at hcs
    obtain ⟨rfl, rfl, rfl⟩ := hcs
    refine ⟨(List.range len).map fun r => ⟨Ar r, C r, (Z r).take (L r)⟩, by simp, ⟨fun i v hv => ?_, fun x hx => ?_⟩, by simpa using hl, by unfold maxLen at hm; exact hm, fun e => by cases e⟩
    · have hi : i < len := by
        rcases Nat.lt_or_ge i len with h | h
        · exact h
        · simp [h] at hv
      obtain ⟨h1, h2, h3, h4, _⟩ := hr i (by omega)
      simp [hi, clV] at hv
      obtain ⟨b, o, rfl⟩ := lit_of_cell (hr 0 (by omega)).1
      rw [Addr.add_lit] at h1
      refine ⟨b, o, rfl, cell_lt h1, ?_⟩
      rw [h1, ← hv]
      congr 2
      omega
    · simp at hx
      obtain ⟨r, hlt, rfl⟩ := hx
      obtain ⟨h1, h2, h3, h4, h5, h6, h7⟩ := hr r (by omega)
      refine ⟨fun i z hz => ?_, by simp; omega, by unfold maxLen at h3; exact h3⟩
      simp only at hz ⊢
      rw [List.getElem?_take] at hz
      split at hz
      · have hlt2 : i < (Z r).length := by
          rcases Nat.lt_or_ge i (Z r).length with h | h
          · exact h
          · simp [h] at hz
        cases hA : Ar r with
        | none => have := h6 hA; omega
        | some a' =>
          have hc := (h7 a' hA).2 i (by omega)
          obtain ⟨b, o, rfl⟩ := lit_of_cell ((h7 a' hA).2 0 (by omega))
          rw [Addr.add_lit] at hc
          refine ⟨b, o, rfl, cell_lt hc, ?_⟩
          rw [hc]
          simp [hlt2] at hz
          simp [hlt2, hz]
      · cases hz
end Go.Proofs.YtcjfkbponikadaaGreatDoor
