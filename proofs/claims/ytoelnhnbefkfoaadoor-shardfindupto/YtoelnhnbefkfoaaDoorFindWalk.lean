/-
  The walk of ShardFind.
-/
import Derived.Test.YtoelnhnbefkfoaaDoorLetters
import Derived.Test.YtoelnhnbefkfoaaDoorShMX
import Derived.Test.YtoelnhnbefkfoaaDoorKMap
import Derived.Deep.DeepCutAuto
import Derived.Deep.RegionWith
set_option linter.unusedVariables false
set_option linter.unusedSimpArgs false
namespace Go.Proofs.YtoelnhnbefkfoaaDoor
open Go.RowKit

/-- a map is handed back, a valid one with few cuts -/
def RetMkF (w : World) (e : Ending) (w' : World) : Prop := ∃ m : Mp, e = .returned (.agg #[.slice m.A m.cs.length m.ca, .slice m.O m.os.length m.co]) ∧ OkM m.cs m.os ∧ MO w' w.heap.size m ∧ Below w.heap.size w w'
theorem kmap_mkF (P : Option Addr) (cp : Nat) (zs : List Int) (w : World) (hP : IS w P zs) (hl : zs.length ≤ 9223372036854775807) :
    Calls Tryd.prog 26 #[.slice P zs.length cp] w (RetMkF w) := by
  refine (kmap_any P cp zs w hP hl).mono ?_
  rintro e w' ⟨A, ca, O, co, rfl, h1, h2, hb⟩
  refine ⟨⟨A, ca, (mapR zs 6).1, O, co, (mapR zs 6).2.map fun (k : Nat) => (k : Int)⟩, by simp only [List.length_map], mapR_ok zs, ⟨h1, ?_⟩, hb⟩
  have e : ((mapR zs 6).2.map fun (k : Nat) => (k : Int)).map (Value.int .i64) = nV (mapR zs 6).2 := by simp [nV]
  show OR w' w.heap.size 3 O co (((mapR zs 6).2.map fun (k : Nat) => (k : Int)).map (Value.int .i64))
  rw [e]; exact h2
theorem findV_two : findV [] [2] ⟨#[97]⟩ = (2, 0) := by decide +kernel
theorem cut6_key {s : ByteArray} {n : Nat} (hs : s.data.toList.all lowB = true) (hn : n ≤ s.size ∧ n ≤ 6) (h : (s.extract 0 n).toList.isEmpty = false) : keyB (s.extract 0 n) = true := by
  have e : (s.extract 0 n).data.toList = s.data.toList.take n := by
    rw [ByteArray.data_extract]; simp
  have hz : (s.extract 0 n).size = n := by rw [ByteArray.size_extract]; omega
  have h1 : 1 ≤ n := by
    rcases Nat.eq_zero_or_pos n with h0 | h0
    · rw [ByteArray.toList_eq, e, h0] at h; simp at h
    · exact h0
  have h2 : (s.data.toList.take n).all lowB = true := by
    rw [List.all_eq_true] at hs ⊢
    exact fun x hx => hs x (List.mem_of_mem_take hx)
  simp [keyB, hz, h1, hn.2, h2]
/-- does a cut lie between two keys? -/
def aprB (cs : List ByteArray) (ka kb : ByteArray) : Bool := cs.any fun k => ltB ka k != ltB kb k
theorem aprB_no {cs : List ByteArray} {ka kb : ByteArray} (h : aprB cs ka kb = false) (os : List Int) : whV cs os ka = whV cs os kb := by
  have : atC cs ka = atC cs kb := by
    unfold atC
    unfold aprB at h
    induction cs with
    | nil => rfl
    | cons c r ih =>
      rw [List.any_cons, Bool.or_eq_false_iff] at h
      have e : leB c ka = leB c kb := by
        have h1 : ltB ka c = ltB kb c := by simpa using h.1
        cases hx : ltB ka c with
        | true => rw [leB_no.2 hx, leB_no.2 (h1 ▸ hx)]
        | false => rw [leB_iff.2 hx, leB_iff.2 (h1 ▸ hx)]
      simp only [List.takeWhile_cons, e]
      split
      · simp [ih h.2]
      · rfl
  unfold whV
  rw [this]

set_option maxHeartbeats 400000 in
theorem fclo_any (g : Nat) (ka kb k : ByteArray) (w : World) (h1 : w.cell? ⟨g, 0, none⟩ = some (.string ka)) (h2 : w.cell? ⟨g + 1, 0, none⟩ = some (.string kb)) :
    Calls Tryd.prog 29 #[.string k, .pointer (some ⟨g, 0, none⟩), .pointer (some ⟨g + 1, 0, none⟩)] w fun e w' => e = .returned (.bool (ltB ka k != ltB kb k)) ∧ w = w' := by
  go_enter Tryd.func29, Tryd.ntmps29
  go_wp2_with fail
  go_ret
  exact ⟨ret_bool rfl, rfl⟩

set_option maxHeartbeats 400000 in
set_option maxRecDepth 100000 in
theorem fidx_any (g : Nat) (A : Option Addr) (c : Nat) (cs : List ByteArray) (ka kb : ByteArray) (w : World) (h1 : w.cell? ⟨g, 0, none⟩ = some (.string ka)) (h2 : w.cell? ⟨g + 1, 0, none⟩ = some (.string kb)) (hA : VS w A (cs.map Value.string)) (l1 : cs.length < 4611686018427387904) :
    Calls Tryd.prog 50 #[.slice A cs.length c, .func (.func 29) #[] #[.pointer (some ⟨g, 0, none⟩), .pointer (some ⟨g + 1, 0, none⟩)]] w fun e w' => ∃ r : Int, e = .returned (.int .i64 r) ∧ decide (0 ≤ r) = aprB cs ka kb ∧ w = w' := by
  go_enter Tryd.func50, Tryd.ntmps50
  go_wp2_with fail
  go_loopw [8] (fun i wr => ∃ k : Nat, k ≤ cs.length ∧ i = .int .i64 k ∧ aprB (cs.take k) ka kb = false ∧ w = wr) (fun i _ => cs.length - (intOf i).toNat)
  case atStart => exact ⟨0, Nat.zero_le _, rfl, rfl, rfl⟩
  case round =>
    obtain ⟨k, hk, rfl, hnot, rfl⟩ := hrel
    have HN := hideP hnot
    clear hnot
    by_cases hlt : k < cs.length
    · obtain ⟨b1, o1, rfl, hbl, q1⟩ := hA k (.string cs[k]) (by simp [hlt])
      have HT := hideP (show aprB (cs.take (k + 1)) ka kb = (aprB (cs.take k) ka kb || (ltB ka cs[k] != ltB kb cs[k])) by unfold aprB; rw [List.take_succ_eq_append_getElem hlt, List.any_append]; simp)
      have HM := hideP (fun (h : (ltB ka cs[k] != ltB kb cs[k]) = true) => show aprB cs ka kb = true from by
        unfold aprB; rw [List.any_eq_true]; exact ⟨cs[k], List.getElem_mem hlt, h⟩)
      clear hA
      generalize cs[k] = s at q1 HT HM
      have g1 : (0 : Int) ≤ (k : Int) := by omega
      have g2 : (k : Int) < (cs.length : Int) := by omega
      go_wp2_with fail
      refine (fclo_any g ka kb s _ h1 h2).mono ?_
      rintro e w1 ⟨rfl, rfl⟩
      cases hin : (ltB ka s != ltB kb s)
      · have HI := hideP hin
        clear hin
        go_wp2_with fail
        go_roundw
        case rel => exact ⟨k + 1, by omega, by go_num, by rw [HT.out, HN.out, HI.out]; rfl, trivial⟩
        case measure => simp [intOf]; omega
      · have HI := hideP hin
        clear hin
        go_wp2_with fail
        go_ret
        exact ⟨k, rfl, by rw [HM.out HI.out]; simp, rfl⟩
    · go_wp2_with fail
      go_ret
      exact ⟨-1, rfl, by have := HN.out; rw [List.take_of_length_le (by omega)] at this; rw [this]; rfl, rfl⟩

set_option maxHeartbeats 400000 in
set_option maxRecDepth 100000 in
theorem fcont_any (g : Nat) (A : Option Addr) (c : Nat) (cs : List ByteArray) (ka kb : ByteArray) (w : World) (h1 : w.cell? ⟨g, 0, none⟩ = some (.string ka)) (h2 : w.cell? ⟨g + 1, 0, none⟩ = some (.string kb)) (hA : VS w A (cs.map Value.string)) (l1 : cs.length < 4611686018427387904) :
    Calls Tryd.prog 28 #[.slice A cs.length c, .func (.func 29) #[] #[.pointer (some ⟨g, 0, none⟩), .pointer (some ⟨g + 1, 0, none⟩)]] w fun e w' => e = .returned (.bool (aprB cs ka kb)) ∧ w = w' := by
  go_enter Tryd.func28, Tryd.ntmps28
  go_wp2_with fail
  refine (fidx_any g A c cs ka kb _ h1 h2 hA l1).mono ?_
  rintro e w' ⟨r, rfl, hr, rfl⟩
  have HR := hideP hr
  clear hr
  go_wp2_with fail
  go_ret
  exact ⟨ret_bool HR.out, rfl⟩
theorem OR.low {w : World} {B g i : Nat} {t : TypeId} {A : Option Addr} {c : Nat} {xs : List Value} {v : Value} (h : OR w B t A c xs) (hg : g < B) : OR (w.setCell ⟨g, i, none⟩ v) B t A c xs := ownsRow_setCell_below h hg v
/-- while the law runs: its two strings, its map, the tables -/
structure FA (w : World) (g gm B : Nat) (m : Mp) (sa sb : ByteArray) (wr : World) : Prop where
  xa : Box wr g 9 #[.string sa]
  xb : Box wr (g + 1) 9 #[.string sb]
  xm : Box wr gm 25 #[.slice m.A m.cs.length m.ca, .slice m.O m.os.length m.co]
  mo : MO wr B m
  be : Below w.heap.size w wr
  tb : Tabs w
  low : w.heap.size ≤ g
  gs : g + 1 < gm
  gB : g + 1 < B
section
variable {w wr w' : World} {g gm B : Nat} {m : Mp} {sa sb : ByteArray}
theorem FA.below (h : FA w g gm B m sa sb wr) (hb : Below wr.heap.size wr w') : FA w g gm B m sa sb w' := ⟨h.xa.below hb, h.xb.below hb, h.xm.below hb, h.mo.below hb, h.be.trans (hb.mono h.be.size), h.tb, h.low, h.gs, h.gB⟩
theorem FA.drew (h : FA w g gm B m sa sb wr) : FA w g gm B m sa sb wr.drew := h.below (Below.refl _ _).drew
theorem FA.tabs (h : FA w g gm B m sa sb wr) : Tabs wr := h.tb.below h.be
theorem FA.ms (h : FA w g gm B m sa sb wr) : MS wr m := h.mo.ms
theorem FA.c (h : FA w g gm B m sa sb wr) : wr.cell? ⟨g, 0, none⟩ = some (.string sa) ∧ wr.cell? ⟨g + 1, 0, none⟩ = some (.string sb) := ⟨h.xa.cell 0 rfl, h.xb.cell 0 rfl⟩
theorem FA.cm (h : FA w g gm B m sa sb wr) : wr.cell? ⟨gm, 0, none⟩ = some (.slice m.A m.cs.length m.ca) ∧ wr.cell? ⟨gm, 1, none⟩ = some (.slice m.O m.os.length m.co) := ⟨h.xm.cell 0 rfl, h.xm.cell 1 rfl⟩
theorem FA.set2 (h : FA w g gm B m sa sb wr) (ta tb : ByteArray) : FA w g gm B m ta tb ((wr.setCell ⟨g, 0, none⟩ (.string ta)).setCell ⟨g + 1, 0, none⟩ (.string tb)) := by
  have h1 := h.low
  have h2 := h.gs
  have h3 := h.gB
  refine ⟨?_, ?_, ?_, ⟨(h.mo.cuts.low (by omega)).low (by omega), (h.mo.own.low (by omega)).low (by omega)⟩, below_set (below_set h.be (by omega)) (by omega), h.tb, h.low, h.gs, h.gB⟩
  · exact (show Box _ g 9 #[.string ta] by simpa using h.xa.set 0 (.string ta)).other (a := ⟨g + 1, 0, none⟩) (by show g + 1 ≠ g; omega) _
  · simpa using (h.xb.other (a := ⟨g, 0, none⟩) (by show g ≠ g + 1; omega) (.string ta)).set 0 (.string tb)
  · exact (h.xm.other (a := ⟨g, 0, none⟩) (by show g ≠ gm; omega) _).other (a := ⟨g + 1, 0, none⟩) (by show g + 1 ≠ gm; omega) _
/-- what the stores ask -/
structure FS (g : Nat) (sa sb ta : ByteArray) (wr : World) : Prop where
  f0 : wr.frozen? ⟨g, 0, none⟩ = false
  f1 : wr.frozen? ⟨g + 1, 0, none⟩ = false
  f2 : (wr.setCell ⟨g, 0, none⟩ (.string ta)).frozen? ⟨g + 1, 0, none⟩ = false
  d0 : wr.cell? ⟨g, 0, none⟩ = some (.string sa)
  d1 : wr.cell? ⟨g + 1, 0, none⟩ = some (.string sb)
  d2 : (wr.setCell ⟨g, 0, none⟩ (.string ta)).cell? ⟨g + 1, 0, none⟩ = some (.string sb)
theorem FA.fs (h : FA w g gm B m sa sb wr) (ta : ByteArray) : FS g sa sb ta wr :=
  have x := h.xb.other (a := ⟨g, 0, none⟩) (by show g ≠ g + 1; omega) (.string ta)
  ⟨h.xa.frozen 0, h.xb.frozen 0, x.frozen 0, h.xa.cell 0 rfl, h.xb.cell 0 rfl, x.cell 0 rfl⟩
end

set_option maxHeartbeats 2000000 in
set_option maxRecDepth 100000 in
theorem find_walk (P : Option Addr) (cp : Nat) (zs : List Int) (a b : ByteArray) (w : World) (hP : IS w P zs) (hl : zs.length ≤ cp) (hc : cp ≤ 9223372036854775807) (hn : P = none → cp = 0) (ha : a.size < 35184372088832) (hb : b.size < 35184372088832) (hT : Tabs w) :
    Calls Tryd.prog 5 #[.slice P zs.length cp, .string a, .string b] w fun e w' => e = .returned (.bool true) ∧ Below w.heap.size w w' := by
  have b0 := (((Below.refl w.heap.size w).alloc (Nat.le_refl _) (.cells #[.string a] 9)).alloc (by simp) (.cells #[.string b] 9)).alloc (by simp; omega) (.cells #[.int .i64 2] 3)
  have x0 := ((Box.new w 9 #[.string a]).alloc (.cells #[.string b] 9)).alloc (.cells #[.int .i64 2] 3)
  have x1 := (Box.new (w.alloc (.cells #[.string a] 9)) 9 #[.string b]).alloc (.cells #[.int .i64 2] 3)
  have x2 := Box.new ((w.alloc (.cells #[.string a] 9)).alloc (.cells #[.string b] 9)) 3 #[.int .i64 2]
  simp only [World.size_alloc] at x1 x2
  have hm0 : MS _ ⟨none, 0, [], some ⟨w.heap.size + 1 + 1, 0, none⟩, 1, [2]⟩ :=
    ⟨VS.nil, VS.is_int (l := [2]) (VS.of_box x2), by simp, by simp, by simp [maxLen], by simp [maxLen], (fun _ => rfl), (fun e => by cases e)⟩
  have HF := hideP (shfind_any _ ⟨#[97]⟩ _ hm0 (by simp))
  rw [show findV (⟨none, 0, [], some ⟨w.heap.size + 1 + 1, 0, none⟩, 1, [2]⟩ : Mp).cs (⟨none, 0, [], some ⟨w.heap.size + 1 + 1, 0, none⟩, 1, [2]⟩ : Mp).os ⟨#[97]⟩ = (2, 0) from findV_two] at HF
  clear x2 hm0
  go_enter Tryd.func5, Tryd.ntmps5
  go_wp2_with fail
  refine HF.out.mono ?_
  rintro e w1 ⟨rfl, hb1⟩
  have hb1' := b0.trans (hb1.mono b0.size)
  replace x0 := x0.below hb1
  replace x1 := x1.below hb1
  have hP1 := hP.below hb1'
  clear HF hb1 b0 hP
  go_wp2_with fail
  refine (kmap_mkF P cp zs _ hP1 (by omega)).mono ?_
  rintro e w2 ⟨m, rfl, hok, hmo, hb2⟩
  have hl1 := x1.lt
  have hFA : FA w w.heap.size w2.heap.size w1.heap.size m a b (w2.alloc (.cells #[.slice m.A m.cs.length m.ca, .slice m.O m.os.length m.co] 25)) := by
    have hal := (Below.refl w2.heap.size w2).alloc (Nat.le_refl _) (.cells #[.slice m.A m.cs.length m.ca, .slice m.O m.os.length m.co] 25)
    have hb3 := hb1'.trans (hb2.mono hb1'.size)
    exact ⟨(x0.below hb2).below hal, (x1.below hb2).below hal, Box.new _ _ _, hmo.below hal, hb3.trans (hal.mono hb3.size), hT, Nat.le_refl _, Nat.lt_of_lt_of_le hl1 hb2.size, hl1⟩
  clear hP1 hb1' hb2 hmo x0 x1 hl1 hT
  go_wp2_with fail
  generalize w2.alloc _ = w3 at hFA ⊢
  generalize w2.heap.size = gm at hFA ⊢
  generalize w1.heap.size = B at hFA
  generalize hg : w.heap.size = g at hFA ⊢
  clear hg
  go_cut [] (fun wc => FA w g gm B m (letS a) (letS b) wc)
  case first =>
    replace hFA := hFA.drew
    obtain ⟨z1, z2⟩ := hFA.c
    have HLA := hideP (fun (W : World) (h : Tabs W) => letters_any a W ha h)
    have HLB := hideP (fun (W : World) (h : Tabs W) => letters_any b W hb h)
    go_region_with (first
      | (go_at_call 27
         first
           | (refine (HLA.out _ hFA.tabs).mono ?_; rintro e wa ⟨rfl, hba⟩; have hF1 := hFA.below hba; have z3 := hF1.c.1; have z4 := hF1.c.2; dsimp only)
           | (refine (HLB.out _ hF1.tabs).mono ?_; rintro e wb ⟨rfl, hbb⟩; have hF2 := hF1.below hbb; obtain ⟨f0, f1, f2, d0, d1, d2⟩ := hF2.fs (letS a); have hF3 := hF2.set2 (letS a) (letS b); dsimp only)))
    all_goals
      go_wp2_with fail
      go_meet
      case rel => exact hF3
  case rest =>
    have hF := hcut
    clear hFA hcut ha hb
    have hla := letS_low a
    have hlb := letS_low b
    generalize letS a = sa at hF hla
    generalize letS b = sb at hF hlb
    go_wp2_with fail
    obtain ⟨na, hna⟩ : ∃ na : Nat, na = min sa.size 6 := ⟨_, rfl⟩
    obtain ⟨nb, hnb⟩ : ∃ nb : Nat, nb = min sb.size 6 := ⟨_, rfl⟩
    have ga : min ((sa.size : Nat) : Int) 6 = (na : Int) := by omega
    have gb : min ((sb.size : Nat) : Int) 6 = (nb : Int) := by omega
    have g1 : (0 : Int) ≤ (na : Int) := by omega
    have g2 : (na : Int) ≤ (sa.size : Int) := by omega
    have g3 : (0 : Int) ≤ (nb : Int) := by omega
    have g4 : (nb : Int) ≤ (sb.size : Int) := by omega
    have hn1 : na ≤ sa.size ∧ na ≤ 6 := by omega
    have hn2 : nb ≤ sb.size ∧ nb ≤ 6 := by omega
    clear hna hnb
    go_cut [] (fun wc => FA w g gm B m (sa.extract 0 na) (sb.extract 0 nb) wc)
    case first =>
      obtain ⟨f0, f1, f2, d0, d1, d2⟩ := hF.fs (sa.extract 0 na)
      have hF3 := (hF.set2 (sa.extract 0 na) (sb.extract 0 nb)).drew
      clear hF
      go_region
      all_goals
        go_wp2_with fail
        go_meet
        case rel => exact hF3
    case rest =>
      have hF2 := hcut
      clear hF hcut ga gb g1 g2 g3 g4
      have hka : ((sa.extract 0 na).toList.isEmpty = false) → keyB (sa.extract 0 na) = true := cut6_key hla hn1
      have hkb : ((sb.extract 0 nb).toList.isEmpty = false) → keyB (sb.extract 0 nb) = true := cut6_key hlb hn2
      clear hla hlb hn1 hn2
      generalize sa.extract 0 na = ka at hF2 hka
      generalize sb.extract 0 nb = kb at hF2 hkb
      obtain ⟨z1, z2⟩ := hF2.c
      obtain ⟨y1, y2⟩ := hF2.cm
      have hbe := hF2.be
      cases hea : ka.toList.isEmpty with
      | true =>
        go_wp2_with fail
        go_ret
        exact ⟨rfl, hbe⟩
      | false =>
        cases heb : kb.toList.isEmpty with
        | true =>
          go_wp2_with fail
          go_ret
          exact ⟨rfl, hbe⟩
        | false =>
          have hk1 := hka hea
          have hk2 := hkb heb
          have HFA := hideP (fun (W : World) (h : MS W m) => shfind_any m ka W h hok.l2)
          have HFB := hideP (fun (W : World) (h : MS W m) => shfind_any m kb W h hok.l2)
          rw [findV_ok (chkM_ok.2 hok) hk1] at HFA
          rw [findV_ok (chkM_ok.2 hok) hk2] at HFB
          have HAP := hideP (fun (h : aprB m.cs ka kb = false) => aprB_no h m.os)
          have hfew := hok.few
          clear hk1 hk2 hka hkb hok
          go_wp2_with fail
          refine (HFA.out _ hF2.ms).mono ?_
          rintro e w5 ⟨rfl, hb5⟩
          dsimp only
          replace hF2 := hF2.below hb5
          clear z1 z2 y1 y2 hbe hb5 HFA
          obtain ⟨z1, z2⟩ := hF2.c
          obtain ⟨y1, y2⟩ := hF2.cm
          go_wp2_with fail
          refine (HFB.out _ hF2.ms).mono ?_
          rintro e w6 ⟨rfl, hb6⟩
          dsimp only
          replace hF2 := hF2.below hb6
          clear z1 z2 y1 y2 hb6 HFB
          obtain ⟨z1, z2⟩ := hF2.c
          obtain ⟨y1, y2⟩ := hF2.cm
          have hbe := hF2.be
          generalize whV m.cs m.os ka = va at HAP
          generalize whV m.cs m.os kb = vb at HAP
          go_wp2_with fail
          refine (fcont_any g m.A m.ca m.cs ka kb _ z1 z2 hF2.ms.cuts (by omega)).mono ?_
          rintro e w7 ⟨rfl, rfl⟩
          dsimp only
          cases hap : aprB m.cs ka kb with
          | true =>
            go_wp2_with fail
            go_ret
            exact ⟨rfl, hbe⟩
          | false =>
            have hv := HAP.out hap
            subst hv
            have dv : (va == va) = true := by simp
            go_wp2_with fail
            go_ret
            exact ⟨rfl, hbe⟩
end Go.Proofs.YtoelnhnbefkfoaaDoor
