/-
  strings.IndexAny at the four signs, of whatever bytes.
-/
import Derived.Test.YtmepmiokpcddbabGreatDoorCa7
import Derived.Laws.Runes
import Derived.Laws.RangeString
import Derived.Deep.LoopGhost
import Derived.WalkMore
import Derived.Deep.QuietTactic
import Derived.BigQuiet
set_option linter.unusedVariables false
set_option linter.unusedSimpArgs false
namespace Go.Proofs.YtmepmiokpcddbabGreatDoor
open Go.RowKit
open Go.Lib hiding intOf

theorem run_next_any {P : Program} (w : World) (s : ByteArray) (pos : Nat) (ty : TypeId) (h : pos < s.size) :
    (Instr.next (.pointer (some ⟨w.heap.size, 0, none⟩)) true ty).run P (w.iter s pos) = .ok (.tuple #[.bool true, .int .i64 pos, .int .i32 (Utf8.decode s pos).1]) (w.iter s (pos + (Utf8.decode s pos).2)) := by
  simp only [Instr.next, getObj, setObj, Sem.run_bind, Sem.run, World.iter_heap, Result.andThen, h, if_true, World.iter_set]
  simp [goInt, Sem.run, World.iter_heap, World.iter_set]
theorem get_at (s : ByteArray) (j : Nat) (h : j < s.size) : s.get! j = s[j]'h := by
  simp [ByteArray.get!, getElem!_pos, h]
  rfl
/-- a rune that is no byte -/
def HighR (c : Nat) : Prop := 128 ≤ c ∧ Utf8.valid (c : Int) = true
theorem high_err : HighR Utf8.runeError := ⟨by decide, by decide⟩
/-- what is decoded where a byte is no ASCII -/
theorem decode_high (s : ByteArray) (i : Nat) (hi : i < s.size) (hb : 128 ≤ (s[i]'hi).toNat) : HighR (Utf8.decode s i).1 ∧ 1 ≤ (Utf8.decode s i).2 ∧ i + (Utf8.decode s i).2 ≤ s.size ∧ ∀ j (hj : j < s.size), i ≤ j → j < i + (Utf8.decode s i).2 → 128 ≤ (s[j]'hj).toNat := by
  have one : ∀ j (hj : j < s.size), i ≤ j → j < i + 1 → 128 ≤ (s[j]'hj).toNat := fun j hj h1 h2 => by
    obtain rfl : j = i := by omega
    exact hb
  have e0 : (s.get! (i + 0)).toNat = (s[i]'hi).toNat := by rw [Nat.add_zero, get_at s i hi]
  have g1 : ∀ k, i + k < s.size → (s.get! (i + k)).toNat / 64 = 2 → ∀ (h : i + k < s.size), 128 ≤ (s[i + k]'h).toNat := fun k hk h2 h => by rw [get_at s (i + k) h] at h2; omega
  unfold Utf8.decode
  simp only [e0]
  rw [if_neg (by omega)]
  split
  · next h1 =>
    simp only [Bool.and_eq_true, decide_eq_true_eq, beq_iff_eq] at h1
    split
    · next h2 =>
      refine ⟨⟨by omega, ?_⟩, by simp, by simp; omega, fun j hj a b => ?_⟩
      · have : (s[i]'hi).toNat < 256 := (s[i]'hi).toNat_lt
        simp only [Utf8.valid]
        simp
        omega
      · rcases (show j = i ∨ j = i + 1 by simp at b; omega) with rfl | rfl
        · exact hb
        · exact g1 1 h1.2.1 h1.2.2 hj
    · exact ⟨high_err, Nat.le_refl _, hi, one⟩
  · split
    · next h1 =>
      simp only [Bool.and_eq_true, decide_eq_true_eq, beq_iff_eq] at h1
      split
      · next h2 =>
        simp only [Bool.and_eq_true, decide_eq_true_eq] at h2
        refine ⟨⟨by omega, h2.2⟩, by simp, by simp; omega, fun j hj a b => ?_⟩
        rcases (show j = i ∨ j = i + 1 ∨ j = i + 2 by simp at b; omega) with rfl | rfl | rfl
        · exact hb
        · exact g1 1 h1.1.2.1 h1.1.2.2 hj
        · exact g1 2 h1.2.1 h1.2.2 hj
      · exact ⟨high_err, Nat.le_refl _, hi, one⟩
    · split
      · next h1 =>
        simp only [Bool.and_eq_true, decide_eq_true_eq, beq_iff_eq] at h1
        split
        · next h2 =>
          simp only [Bool.and_eq_true, decide_eq_true_eq] at h2
          refine ⟨⟨by omega, h2.2⟩, by simp, by simp; omega, fun j hj a b => ?_⟩
          rcases (show j = i ∨ j = i + 1 ∨ j = i + 2 ∨ j = i + 3 by simp at b; omega) with rfl | rfl | rfl | rfl
          · exact hb
          · exact g1 1 h1.1.1.2.1 h1.1.1.2.2 hj
          · exact g1 2 h1.1.2.1 h1.1.2.2 hj
          · exact g1 3 h1.2.1 h1.2.2 hj
        · exact ⟨high_err, Nat.le_refl _, hi, one⟩
      · exact ⟨high_err, Nat.le_refl _, hi, one⟩
/-- the four signs as a string -/
def sgS : ByteArray := ⟨#[61, 43, 60, 63]⟩
theorem sgS_at (j : Nat) (h : j < 4) : ∃ x : UInt8, sgS[j]'h = x ∧ x.toNat < 128 := by
  rcases j with _ | _ | _ | _ | j
  · exact ⟨61, rfl, by decide⟩
  · exact ⟨43, rfl, by decide⟩
  · exact ⟨60, rfl, by decide⟩
  · exact ⟨63, rfl, by decide⟩
  · omega
set_option maxHeartbeats 1000000 in
theorem validRune_any (c : Nat) (h : HighR c) (w : World) :
    Calls Tryz.prog 182 #[.int .i32 c] w fun e w' => e = .returned (.bool true) ∧ w = w' := by
  obtain ⟨h1, h2⟩ := h
  rw [validRune_eq, validRune] at h2
  have h3 := of_decide_eq_true h2
  clear h2
  have g0 : (0 : Int) ≤ (c : Int) := by omega
  by_cases h4 : (c : Int) < 55296
  · go_enter Tryz.func182, Tryz.ntmps182
    go_wp2_with fail
    go_ret
    exact ⟨rfl, rfl⟩
  · have h5 : (57343 : Int) < (c : Int) := by omega
    have h6 : (c : Int) ≤ 1114111 := by omega
    clear h3
    go_enter Tryz.func182, Tryz.ntmps182
    go_wp2_with fail
    go_ret
    exact ⟨rfl, rfl⟩
theorem ibyte_any (s : ByteArray) (c : Int) (w : World) : Calls Tryz.prog 81 #[.string s, .int .u8 c] w fun e w' => e = .returned (.int .i64 (indexByte s.data.toList c.toNat.toUInt8)) ∧ w' = w := Any.strings_IndexByte Tryz.ibyteL s c w
theorem ibyte_no {l : List UInt8} {c : UInt8} (h : c ∉ l) : indexByte l c = -1 := by rw [indexByte_eq, index_no h]
set_option maxHeartbeats 4000000 in
set_option maxRecDepth 100000 in
theorem indexRune_high (t : ByteArray) (ht4 : t.size = 4) (hta : ∀ b ∈ t.data.toList, b.toNat < 128) (c : Nat) (h : HighR c) (w : World) :
    Calls Tryz.prog 141 #[.string t, .int .i32 c] w fun e w' => e = .returned (.int .i64 (-1)) ∧ Below w.heap.size w w' := by
  have h0 := h.1
  have g0 : (0 : Int) ≤ (c : Int) := by omega
  have g1 : ¬ (c : Int) < 128 := by omega
  have HA : ∀ j (hj : j < t.size), (t[j]'hj).toNat < 128 := fun j hj => hta _ (Array.getElem_mem_toList _)
  by_cases he : c = 65533
  · subst he
    have HT := hideP ht4
    have HH := hideP HA
    clear hta ht4 HA
    go_enter Tryz.func141, Tryz.ntmps141
    go_wp2_with fail
    go_loopg [5, 6] t.size (fun g _ _ wx => ∃ i : Nat, i + g = t.size ∧ wx = w.iter t i)
    case atStart => exact ⟨0, by omega, rfl⟩
    case round =>
      obtain ⟨i, hig, rfl⟩ := hrel
      cases gk with
      | zero =>
        obtain rfl : i = t.size := by omega
        have hnx := run_next_end (P := Tryz.prog) w t t.size
        go_wp2_with fail
        go_ret
        exact ⟨rfl, (Below.refl _ _).alloc (Nat.le_refl _) _⟩
      | succ g =>
        have hi : i < t.size := by omega
        have hx1 := HH.out i hi
        have hnx := fun ty => run_next_ascii (P := Tryz.prog) w t i ty hi hx1
        generalize t[i]'hi = x at hnx hx1
        have hne : ((x.toNat : Int) == 65533) = false := by rw [beq_eq_false_iff_ne]; omega
        clear hx1
        go_wp2_with fail
        go_roundg g
        case measure => omega
        case rel => exact ⟨i + 1, by omega, rfl⟩
  · have hne : ((c : Int) == 65533) = false := by rw [beq_eq_false_iff_ne]; omega
    obtain ⟨e1, e2, e3⟩ := encode_facts (c : Int) h.2 (by omega)
    have HV := hideP (validRune_any c h w)
    generalize hrs : Utf8.encode (c : Int) = rs at e1 e2 e3
    have hs21 : (Tryz.prog.underlying 21).isSome = true := by kernel_rfl
    have e4 := e3 (by omega)
    clear e3
    obtain ⟨m, hm⟩ : ∃ m : Nat, rs.size = m + 1 := ⟨rs.size - 1, by omega⟩
    have hml : m < rs.size := by omega
    have hmt : m < t.size := by omega
    have e5 : 128 ≤ (rs[m]'hml).toNat := by
      have : rs.size - 1 = m := by omega
      simpa [this] using e4
    have pw : IntKind.i64.wrap ((rs.size : Int) - 1) = (m : Int) := by simp only [IntKind.wrap_i64]; omega
    rw [← hrs] at pw
    have p2 : IntKind.i64.wrap ((m : Int) + 1) = (m : Int) + 1 := by simp only [IntKind.wrap_i64]; omega
    have g4 : (m : Int) < (t.size : Int) := by omega
    have g5 : (0 : Int) ≤ (m : Int) := by omega
    have g6 : (m : Int) < (rs.size : Int) := by omega
    have g7 : (m : Int) + 1 ≤ (t.size : Int) := by omega
    have g8 : (0 : Int) ≤ (m : Int) + 1 := by omega
    have g9 : IntKind.i64.wrap ((m : Int) + 1) ≤ (t.size : Int) := by rw [p2]; exact g7
    have g10 : (0 : Int) ≤ IntKind.i64.wrap ((m : Int) + 1) := by rw [p2]; exact g8
    have hx1 := HA m hmt
    have nx : (((t[m]'hmt).toNat : Int) != ((rs[m]'hml).toNat : Int)) = true := by rw [bne_iff_ne]; omega
    have HI := hideP (fun (n : Nat) (wx : World) => show Calls Tryz.prog 81 #[.string (t.extract n t.size), .int .u8 ((rs[m]'hml).toNat : Int)] wx fun e w' => e = .returned (.int .i64 (-1)) ∧ w' = wx from
      (ibyte_any _ _ wx).mono fun e w' ⟨h1, h2⟩ => ⟨by rw [h1, ibyte_no (fun hb => by have := hta _ (mem_extract hb); simp at this; omega)], h2⟩)
    have tn : ((m : Int) + 1).toNat = m + 1 := by omega
    have HRS := hideP hrs
    clear hrs e4 hta HA ht4 e1 e2 hm
    go_enter Tryz.func141, Tryz.ntmps141
    go_wp2_with fail
    refine HV.out.mono ?_
    rintro e w1 ⟨rfl, rfl⟩
    go_wp2_with fail
    go_step3
    go_wp2_with fail
    rw [HRS.out]
    go_loopw [9, 10] (fun a b wr => a = .int .i64 (m : Int) ∧ b = .int .i64 0 ∧ w = wr) (fun _ _ _ => 0)
    case atStart => exact ⟨rfl, rfl, rfl⟩
    case round =>
      obtain ⟨rfl, rfl, rfl⟩ := hrel
      go_wp2_with fail
      go_step3
      go_wp2_with fail
      go_quiet (fail)
      go_wp2_with fail
      go_quiet ((go_at_call 81; exact (HI.out _ _).mono fun e w' h => ⟨h.1, _, h.2⟩))
      go_wp2_with fail
      dsimp +zetaDelta only [Exit.inBlock, Exit.noGoto, Exit.then]
      go_ret
      exact ⟨rfl, below_drewN (Below.refl _ _) _⟩
theorem high_not {b : UInt8} (h : 128 ≤ b.toNat) : signs.contains b = false := by
  cases e : signs.contains b
  · rfl
  · simp [signs] at e
    rcases e with rfl | rfl | rfl | rfl <;> simp at h
theorem sgS_ascii : ∀ b ∈ sgS.data.toList, b.toNat < 128 := by decide
/-- the iterator stands at a place -/
def It (wx : World) (g : Nat) (s : ByteArray) (p : Nat) : Prop := wx.heap[g]? = some (.stringIter s p)
def nextW (wx : World) (g : Nat) (s : ByteArray) (p : Nat) : World := { wx with heap := wx.heap.setIfInBounds g (.stringIter s p) }
theorem run_next_it {P : Program} {wx : World} {g : Nat} {s : ByteArray} {pos : Nat} (ty : TypeId) (h : pos < s.size) (hg : It wx g s pos) :
    (Instr.next (.pointer (some ⟨g, 0, none⟩)) true ty).run P wx = .ok (.tuple #[.bool true, .int .i64 pos, .int .i32 (Utf8.decode s pos).1]) (nextW wx g s (pos + (Utf8.decode s pos).2)) := by
  unfold It at hg
  simp only [Instr.next, getObj, setObj, Sem.run_bind, Sem.run, hg, Result.andThen, h, if_true]
  simp [goInt, Sem.run, hg, nextW]
theorem run_next_itend {P : Program} {wx : World} {g : Nat} {s : ByteArray} {pos : Nat} (ty : TypeId) (h : ¬ pos < s.size) (hg : It wx g s pos) :
    (Instr.next (.pointer (some ⟨g, 0, none⟩)) true ty).run P wx = .ok (.tuple #[.bool false]) wx := by
  unfold It at hg
  simp [Instr.next, getObj, Sem.run, hg, h]
theorem It.next {wx : World} {g : Nat} {s : ByteArray} {p : Nat} (h : It wx g s p) (q : Nat) : It (nextW wx g s q) g s q := by
  unfold It nextW at *
  have := (Array.getElem?_eq_some_iff.1 h).1
  simp [this]
theorem It.below {wx w' : World} {g : Nat} {s : ByteArray} {p : Nat} (h : It wx g s p) (hb : Below wx.heap.size wx w') : It w' g s p := (hb.block g (Array.getElem?_eq_some_iff.1 h).1).trans h
theorem below_next {w wx : World} {g : Nat} {s : ByteArray} {q : Nat} (h : Below w.heap.size w wx) (hg : w.heap.size ≤ g) : Below w.heap.size w (nextW wx g s q) :=
  ⟨h.os, h.tape, h.output, by simpa [nextW] using h.size, fun i hi => by
    rw [← h.block i hi]
    simp only [nextW]
    rw [Array.getElem?_setIfInBounds_ne (by omega)]⟩
set_option maxHeartbeats 8000000 in
set_option maxRecDepth 1000000 in
theorem any_short (s : ByteArray) (w : World) (h8 : s.size ≤ 8) :
    Calls Tryz.prog 110 #[.string s, .string sgS] w fun e w' => e = .returned (.int .i64 (indexAny s.data.toList signs)) ∧ Below w.heap.size w w' := by
  have h8z : decide ((8 : Int) < (s.size : Int)) = false := decide_eq_false (by omega)
  have HU := hideP (Any.strings_shouldUseASCIISet (P := Tryz.prog) (ρ := Tryz.anyL_ren) { Tryz.anyL with } (s.size : Int) w)
  have hemp : sgS.toList.isEmpty = false := by rw [ByteArray.toList_eq]; rfl
  have hsz : sgS.size = 4 := rfl
  generalize hsg : sgS = t at hemp hsz ⊢
  have HSG := hideP hsg
  clear hsg
  go_enter Tryz.func110, Tryz.ntmps110
  go_wp2_with fail
  refine HU.out.mono ?_
  rintro e w' ⟨rfl, hw⟩
  rw [h8z, hw]
  clear hw
  go_wp2_with fail
  have hit0 : It (w.iter s 0) w.heap.size s 0 := World.iter_heap w s 0
  have hbl0 : Below w.heap.size w (w.iter s 0) := (Below.refl _ _).alloc (Nat.le_refl _) _
  generalize w.iter s 0 = w0 at hit0 hbl0 ⊢
  generalize hgg : w.heap.size = gg at hit0 ⊢
  have HGG := hideP hgg
  clear hgg
  go_loopg [9, 10] s.size (fun g _ _ wx => ∃ i : Nat, i + g = s.size ∧ It wx gg s i ∧ Below w.heap.size w wx ∧ NoAny s.data.toList signs i)
  case atStart => exact ⟨0, by omega, hit0, hbl0, NoAny.zero _ _⟩
  case round =>
    clear hit0 hbl0
    obtain ⟨i, hig, hit, hbl, hno⟩ := hrel
    have HN := hideP hno
    clear hno
    by_cases hi : i < s.size
    · have hnx := fun ty => run_next_it (P := Tryz.prog) ty hi hit
      have hxl : s.data.toList[i]? = some (s[i]'hi) := data_getElem? s i hi
      by_cases hb : (s[i]'hi).toNat < 128
      · rw [decode_ascii s i hi hb] at hnx
        have HX := hideP hxl
        clear hxl
        have hit2 := hit.next (i + 1)
        have hbl2 := below_next (s := s) (q := i + 1) hbl (show w.heap.size ≤ gg by rw [HGG.out]; exact Nat.le_refl _)
        simp only at hnx
        generalize s[i]'hi = x at hnx hb HX
        generalize nextW _ gg s (i + 1) = w2 at hnx hit2 hbl2
        have hcon := contains_iff_indexByte signs x
        have HI := hideP (fun wx => show Calls Tryz.prog 141 #[.string t, .int .i32 (x.toNat : Int)] wx fun e w' => e = .returned (.int .i64 (indexByte signs x)) ∧ w' = wx from
          (Any.strings_IndexRune_ascii (P := Tryz.prog) (ρ := Tryz.anyL_ren) { Tryz.anyL with } t (x.toNat : Int) wx (by omega) (by omega)).mono fun e w' ⟨h1, h2⟩ => ⟨by rw [h1, ← HSG.out]; congr 3; simp, h2⟩)
        cases hin : signs.contains x
        · rw [hin] at hcon
          have hlt : ¬ ((0 : Int) ≤ indexByte signs x) := of_decide_eq_false hcon.symm
          have HIN := hideP hin
          clear hcon hin
          generalize indexByte signs x = q at hlt HI
          go_wp2_with fail
          refine (HI.out _).mono ?_
          rintro e w' ⟨rfl, hw⟩
          rw [hw]
          clear hw
          go_wp2_with fail
          go_roundg (s.size - (i + 1))
          case measure => omega
          case rel => exact ⟨i + 1, by omega, hit2, hbl2, HN.out.succ HX.out HIN.out⟩
        · rw [hin] at hcon
          have hge : (0 : Int) ≤ indexByte signs x := of_decide_eq_true hcon.symm
          have HIN := hideP hin
          clear hcon hin
          generalize indexByte signs x = q at hge HI
          go_wp2_with fail
          refine (HI.out _).mono ?_
          rintro e w' ⟨rfl, hw⟩
          rw [hw]
          clear hw
          go_wp2_with fail
          go_ret
          exact ⟨by rw [indexAny_hit HN.out HX.out HIN.out]; rfl, hbl2⟩
      · obtain ⟨d1, d2, d3, d4⟩ := decode_high s i hi (by omega)
        have hit2 := hit.next (i + (Utf8.decode s i).2)
        have hbl2 := below_next (s := s) (q := i + (Utf8.decode s i).2) hbl (show w.heap.size ≤ gg by rw [HGG.out]; exact Nat.le_refl _)
        generalize hd : Utf8.decode s i = dc at d1 d2 d3 d4 hnx hit2 hbl2
        clear hd
        obtain ⟨c, n⟩ := dc
        simp only at d1 d2 d3 d4 hnx hit2 hbl2
        have HN2 := hideP (show NoAny s.data.toList signs (i + n) from fun j b hj hbj => by
          by_cases hji : j < i
          · exact HN.out j b hji hbj
          · have hjs : j < s.size := by omega
            have h1 := d4 j hjs (by omega) hj
            have h2 : s.data.toList[j]? = some (s[j]'hjs) := data_getElem? s j hjs
            rw [h2] at hbj
            injection hbj with hbj
            rw [← hbj]
            exact high_not h1)
        clear d4 hxl hb
        have HI := hideP (fun wx => indexRune_high t hsz (by rw [← HSG.out]; exact sgS_ascii) c d1 wx)
        generalize nextW _ gg s (i + n) = w2 at hnx hit2 hbl2
        go_wp2_with fail
        refine (HI.out _).mono ?_
        rintro e w3 ⟨rfl, hbw⟩
        have hit3 := hit2.below hbw
        have hbl3 := hbl2.trans (hbw.mono hbl2.size)
        go_wp2_with fail
        go_roundg (s.size - (i + n))
        case measure => omega
        case rel => exact ⟨i + n, by omega, hit3, hbl3, HN2.out⟩
    · obtain rfl : i = s.size := by omega
      have hnx := fun ty => run_next_itend (P := Tryz.prog) ty hi hit
      go_wp2_with fail
      go_ret
      exact ⟨by rw [indexAny_none (by rw [← size_eq]; exact HN.out)]; rfl, hbl⟩
theorem any_any (s : ByteArray) (w : World) (hs : s.size < 4294967281) :
    Calls Tryz.prog 110 #[.string s, .string sgS] w fun e w' => e = .returned (.int .i64 (indexAny s.data.toList signs)) ∧ Below w.heap.size w w' := by
  by_cases h8 : s.size ≤ 8
  · exact any_short s w h8
  · have h116 : (Tryz.prog.info? (Tryz.anyL_ren.t 116)).map (fun i => (i.zero, i.size)) = some (some (.agg (Array.replicate 256 (.bool false))), 256) := by kernel_rfl
    refine (Any.strings_IndexAny_long (P := Tryz.prog) (ρ := Tryz.anyL_ren) { Tryz.anyL with } (zero_of_info h116).1 (zero_of_info h116).2 s sgS w (by decide) (by omega) hs (by decide) (fun j b hb => sgS_ascii b (List.mem_of_getElem? hb))).mono fun e w' ⟨h1, h2⟩ => ⟨h1, ?_⟩
    rw [h2]
    exact ((Below.refl _ _).alloc (Nat.le_refl _) _).alloc (by simp) _
end Go.Proofs.YtmepmiokpcddbabGreatDoor
