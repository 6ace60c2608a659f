/-
  rolaw.StoreSays: the law answers true.
-/
import Derived.Test.YtikklfoenjmdgaaDoorJoinsWalk
import Derived.Test.YtikklfoenjmdgaaDoorScan
set_option linter.unusedVariables false
set_option linter.unusedSimpArgs false
namespace Go.Proofs.YtikklfoenjmdgaaDoor
open Go.RowKit Go.WideMaps Go.Maps

theorem lists_eq {D : DataW Unit} {l m : List Pr} (hl : Ok l) (hD : ∀ j, mv D j = valOf l j) (hm : Lists D m) : m = l := by
  have hk : ∀ p ∈ m, p ∈ l := fun p hp => by
    have h1 := hm.val p.1
    rw [valOf_mem hm.srt hp, hD] at h1
    have h2 : valOf l p.1 ≠ 0 := by rw [← h1]; exact hm.nz p hp
    obtain ⟨q, hq, e⟩ := valOf_ne h2
    have h3 := valOf_mem hl.srt hq
    rw [e, ← h1] at h3
    have : q = p := Prod.ext e h3.symm
    rw [← this]; exact hq
  exact Ok.ext ⟨hm.srt, fun p hp => hl.key p (hk p hp), fun p hp => hl.val p (hk p hp), hm.nz⟩ hl fun j => by rw [hm.val, hD]

/-- what Get answers of a valid store -/
def GotIt (l : List Pr) (key : ByteArray) (v c : Int) : Prop := (keyB key = true ∧ v = valOf l key ∧ c = 0) ∨ (keyB key = false ∧ v = 0 ∧ c = 3)
theorem get_all (A : Option Addr) (c : Nat) (l : List Pr) (key : ByteArray) (w : World) (hA : SV w A c l) (hl : l.length < 4611686018427387904) (h : Ok l) :
    Calls Tryd.prog 5 #[.slice A l.length c, .string key] w fun e w' => ∃ v c, e = .returned (.tuple #[.int .i64 v, .int .i64 c]) ∧ GotIt l key v c ∧ Below w.heap.size w w' := by
  cases hk : keyB key
  · exact (get_key A c l key w hA hl h hk).mono fun e w' ⟨h1, h2⟩ => ⟨0, 3, h1, .inr ⟨hk, rfl, rfl⟩, h2⟩
  · exact (get_ok A c l key w hA hl h hk).mono fun e w' ⟨h1, h2⟩ => ⟨_, 0, h1, .inl ⟨hk, rfl, rfl⟩, h2⟩
/-- what Put answers of a valid store -/
def PutIt (w : World) (l : List Pr) (key : ByteArray) (n : Int) (v : Value) (c : Int) : Prop :=
  (keyB key = false ∧ v = .slice none 0 0 ∧ c = 3) ∨ (keyB key = true ∧ valB n = false ∧ v = .slice none 0 0 ∧ c = 1) ∨
  (keyB key = true ∧ valB n = true ∧ c = 0 ∧ ∃ A cp l', v = .slice A l'.length cp ∧ SV w A cp l' ∧ Ok l' ∧ (∀ k, valOf l' k = if k = key then n else valOf l k) ∧ l'.length ≤ l.length + 1)
theorem putL_len (l : List Pr) (key : ByteArray) (n : Int) (q : Nat) : (putL l key n q).length ≤ l.length + 1 := by
  unfold putL
  by_cases h0 : n = 0 <;> by_cases hf : fnd l key q = true <;> simp [h0, hf] <;> omega
theorem put_all (A : Option Addr) (c : Nat) (l : List Pr) (key : ByteArray) (n : Int) (w : World) (hA : SV w A c l) (h : Ok l) :
    Calls Tryd.prog 6 #[.slice A l.length c, .string key, .int .i64 n] w fun e w' => ∃ v c, e = .returned (.tuple #[v, .int .i64 c]) ∧ PutIt w' l key n v c ∧ Below w.heap.size w w' := by
  have hs := h.small
  cases hk : keyB key
  · exact (put_key A c l key n w hA (by omega) h hk).mono fun e w' ⟨h1, h2⟩ => ⟨_, 3, h1, .inl ⟨hk, rfl, rfl⟩, h2⟩
  · cases hn : valB n
    · exact (put_val A c l key n w hA (by omega) h hk hn).mono fun e w' ⟨h1, h2⟩ => ⟨_, 1, h1, .inr (.inl ⟨hk, hn, rfl, rfl⟩), h2⟩
    · have hq := posOf_at h.srt key
      have hp := putL_ok h hq hk hn
      exact (put_ok A c l key n (posOf l key) w hA h hk hn hq (by omega)).mono fun e w' ⟨A', c', h1, h2, h3⟩ => ⟨_, 0, h1, .inr (.inr ⟨hk, hn, rfl, A', c', _, rfl, h2, hp.1, hp.2, putL_len _ _ _ _⟩), h3⟩
theorem PutIt.below {w w' : World} {l : List Pr} {key : ByteArray} {n : Int} {v : Value} {c : Int} (h : PutIt w l key n v c) (hb : Below w.heap.size w w') : PutIt w' l key n v c := by
  rcases h with h | h | ⟨h1, h2, h3, A, cp, l', h4, h5, h6⟩
  · exact .inl h
  · exact .inr (.inl h)
  · exact .inr (.inr ⟨h1, h2, h3, A, cp, l', h4, h5.below hb, h6⟩)

theorem key_a : keyB ⟨#[97]⟩ = true := by decide +kernel
theorem val_1 : valB 1 = true := by decide

set_option maxHeartbeats 1500000 in
set_option maxRecDepth 100000 in
theorem says_bad (A : Option Addr) (c : Nat) (l : List Pr) (key : ByteArray) (n : Int) (f t : ByteArray) (w : World) (hA : SV w A c l) (hl : l.length < 4611686018427387904) (h : chk ByteArray.empty l ≠ 0) :
    Calls Tryd.prog 3 #[.slice A l.length c, .string key, .int .i64 n, .string f, .string t] w fun e w' => e = .returned (.bool true) ∧ Below w.heap.size w w' := by
  have cg := fun w hA => get_bad A c l key w hA hl h
  have cp := fun w hA => put_bad A c l key n w hA hl h
  have cs := fun w hA => scan_bad A c l f t w hA hl h
  have ct := fun w hA => total_bad A c l w hA hl h
  have cr := fun w hA => rstore_any A c l w hA hl
  have cc := fun w hA => check_any A c l w hA hl
  generalize chk ByteArray.empty l = C at h cg cp cs ct cr cc
  have CG := hideP cg
  have CP := hideP cp
  have CS := hideP cs
  have CT := hideP ct
  have CR := hideP cr
  have CC := hideP cc
  have d1 : (C != 0) = true := by simp [h]
  have d2 : (C == C) = true := by simp
  have d3 : (C != C) = false := by simp
  clear cg cp cs ct cr cc h
  go_enter Tryd.func3, Tryd.ntmps3
  go_wp2_with fail
  refine (CG.out _ hA).mono ?_
  rintro e w1 ⟨rfl, hb1⟩
  have hA1 := hA.below hb1
  go_wp2_with fail
  refine (CP.out _ hA1).mono ?_
  rintro e w2 ⟨rfl, hb2⟩
  have hA2 := hA1.below hb2
  have hB2 := hb1.trans (hb2.mono hb1.size)
  clear hA hA1 hb1 hb2
  go_wp2_with fail
  refine (CS.out _ hA2).mono ?_
  rintro e w3 ⟨rfl, hb3⟩
  have hA3 := hA2.below hb3
  have hB3 := hB2.trans (hb3.mono hB2.size)
  clear hA2 hb3 hB2
  go_wp2_with fail
  refine (CT.out _ hA3).mono ?_
  rintro e w4 ⟨rfl, hb4⟩
  have hA4 := hA3.below hb4
  have hB4 := hB3.trans (hb4.mono hB3.size)
  clear hA3 hb4 hB3
  go_wp2_with fail
  refine (CR.out _ hA4.ps).mono ?_
  rintro e w5 ⟨rfl, hb5⟩
  have hA5 := hA4.below hb5
  have hB5 := hB4.trans (hb5.mono hB4.size)
  clear hA4 hb5 hB4
  go_wp2_with fail
  refine (key_any _ _).mono ?_
  rintro e w' ⟨rfl, rfl⟩
  go_wp2_with fail
  refine (rkeyR_any _ _).mono ?_
  rintro e w6 ⟨rfl, hb6⟩
  have hA6 := hA5.below hb6
  have hB6 := hB5.trans (hb6.mono hB5.size)
  clear hA5 hb6 hB5
  have k1 : (keyB key != keyB key) = false := by simp
  generalize keyB key = B at k1
  go_wp2_with fail
  refine (value_any _ _).mono ?_
  rintro e w' ⟨rfl, rfl⟩
  go_wp2_with fail
  refine (rvalue_any _ _).mono ?_
  rintro e w' ⟨rfl, rfl⟩
  have k2 : (valB n != valB n) = false := by simp
  generalize valB n = V at k2
  go_wp2_with fail
  refine (CC.out _ hA6.ps).mono ?_
  rintro e w7 ⟨rfl, hb7⟩
  have hB7 := hB6.trans (hb7.mono hB6.size)
  clear hA6 hb7 hB6
  go_wp2_with fail
  refine (key_any _ _).mono ?_
  rintro e w' ⟨rfl, rfl⟩
  rw [key_a]
  go_wp2_with fail
  refine (value_any _ _).mono ?_
  rintro e w' ⟨rfl, rfl⟩
  rw [val_1]
  go_wp2_with fail
  go_ret
  exact ⟨rfl, hB7⟩

theorem ownsMap_below {w w' : World} {b n : Nat} {D : DataW Unit} (h : w.ownsMap Tryd.prog 9 (plainElem Tryd.prog 3) b n D) (hb : Below w.heap.size w w') : w'.ownsMap Tryd.prog 9 (plainElem Tryd.prog 3) b n D :=
  h.kept (row := none) ⟨hb.os, hb.tape, hb.output, hb.size, fun k hk _ => hb.block k hk⟩ (by simp)
theorem SV.map_ {w w' : World} {A : Option Addr} {c b n : Nat} {l : List Pr} {D : DataW Unit} (h : SV w A c l) (hg : w.grownBy w' (some b)) (hm : w.ownsMap Tryd.prog 9 (plainElem Tryd.prog 3) b n D) : SV w' A c l := by
  obtain ⟨es, clock, hb, _⟩ := hm
  refine ⟨fun i p hp => ?_, h.le, h.cap, h.none_, h.lit⟩
  obtain ⟨g, o, e, hlt, h1, h2⟩ := h.ps i p hp
  have hne : g ≠ b := fun e => by subst e; simp [World.cell?, hb] at h1
  have hblk := hg.block g hlt (fun e => hne (by injection e))
  exact ⟨g, o, e, Nat.lt_of_lt_of_le hlt hg.size, (World.cell?_of_block hblk).trans h1, (World.cell?_of_block hblk).trans h2⟩
theorem scan_take {l : List Pr} {k : Nat} (h : k < l.length) (f t : ByteArray) : scanL (l.take (k + 1)) f t = scanL (l.take k) f t ++ (if (!ltB (l[k]).1 f && (t.toList.isEmpty || ltB (l[k]).1 t)) = true then [l[k]] else []) := by
  unfold scanL
  rw [List.take_succ_eq_append_getElem h, List.filter_append, List.filter_cons]
  rfl
theorem scan_len_take (l : List Pr) (k : Nat) (f t : ByteArray) : (scanL (l.take k) f t).length ≤ l.length := by
  have h1 : (scanL (l.take k) f t).length ≤ (l.take k).length := List.length_filter_le _ _
  simp at h1
  omega

set_option maxHeartbeats 3000000 in
set_option maxRecDepth 100000 in
theorem says_good (A : Option Addr) (c : Nat) (l : List Pr) (key : ByteArray) (n : Int) (f t : ByteArray) (w : World) (hA : SV w A c l) (h : Ok l) :
    Calls Tryd.prog 3 #[.slice A l.length c, .string key, .int .i64 n, .string f, .string t] w fun e w' => e = .returned (.bool true) ∧ Below w.heap.size w w' := by
  have hl := h.small
  have HC := hideP (chk_ok.2 h)
  go_enter Tryd.func3, Tryd.ntmps3
  go_wp2_with fail
  refine (get_all A c l key _ hA (by omega) h).mono ?_
  rintro e w1 ⟨gv, gc, rfl, hG, hb1⟩
  have HG := hideP hG
  have hA1 := hA.below hb1
  clear hG hA
  go_wp2_with fail
  refine (put_all A c l key n _ hA1 h).mono ?_
  rintro e w2 ⟨pv, pc, rfl, hP, hb2⟩
  have HP2 := hideP hP
  have hA2 := hA1.below hb2
  have hB2 := hb1.trans (hb2.mono hb1.size)
  clear hA1 hb1 hb2 hP
  go_wp2_with fail
  refine (scan_ok A c l f t _ hA2 (by omega) h).mono ?_
  rintro e w3 ⟨As, cs, rfl, hS, hb3⟩
  have hA3 := hA2.below hb3
  have hB3 := hB2.trans (hb3.mono hB2.size)
  have HP3 := hideP (HP2.out.below hb3)
  have ls := scanL_len l f t
  clear hA2 hb3 hB2 HP2
  go_wp2_with fail
  refine (total_ok A c l _ hA3 (by omega) h).mono ?_
  rintro e w4 ⟨rfl, hb4⟩
  have hA4 := hA3.below hb4
  have hB4 := hB3.trans (hb4.mono hB3.size)
  have HP4 := hideP (HP3.out.below hb4)
  have hS4 := hS.below hb4
  clear hA3 hb4 hB3 HP3 hS
  go_wp2_with fail
  refine (rstore_any A c l _ hA4.ps (by omega)).mono ?_
  rintro e w5 ⟨rfl, hb5⟩
  rw [HC.out]
  have hA5 := hA4.below hb5
  have hB5 := hB4.trans (hb5.mono hB4.size)
  have HP5 := hideP (HP4.out.below hb5)
  have hS5 := hS4.below hb5
  clear hA4 hb5 hB4 HP4 hS4
  go_wp2_with fail
  refine (key_any _ _).mono ?_
  rintro e w' ⟨rfl, rfl⟩
  go_wp2_with fail
  refine (rkeyR_any _ _).mono ?_
  rintro e w6 ⟨rfl, hb6⟩
  have hA6 := hA5.below hb6
  have hB6 := hB5.trans (hb6.mono hB5.size)
  have HP6 := hideP (HP5.out.below hb6)
  have hS6 := hS5.below hb6
  clear hA5 hb6 hB5 HP5 hS5
  have k1 : (keyB key != keyB key) = false := by simp
  go_wp2_with fail
  refine (value_any _ _).mono ?_
  rintro e w' ⟨rfl, rfl⟩
  go_wp2_with fail
  refine (rvalue_any _ _).mono ?_
  rintro e w' ⟨rfl, rfl⟩
  have k2 : (valB n != valB n) = false := by simp
  go_wp2_with fail
  refine (check_any A c l _ hA6.ps (by omega)).mono ?_
  rintro e w7 ⟨rfl, hb7⟩
  rw [HC.out]
  have hA7 := hA6.below hb7
  have hB7 := hB6.trans (hb7.mono hB6.size)
  have HP7 := hideP (HP6.out.below hb7)
  have hS7 := hS6.below hb7
  clear hA6 hb7 hB6 HP6 hS6
  go_wp2_with fail
  refine (key_any _ _).mono ?_
  rintro e w' ⟨rfl, rfl⟩
  rw [key_a]
  go_wp2_with fail
  refine (value_any _ _).mono ?_
  rintro e w' ⟨rfl, rfl⟩
  rw [val_1]
  go_wp2_with fail
  refine (of_any A c l _ hA7.ps (by omega) h.rd).mono ?_
  rintro e w8 ⟨bm, D, rfl, hown, hM, hD, hbm, hb8⟩
  have HD : Hid (∀ k, mv D k = valOf l k) := fun k => by rw [hD, lastV_eq h.srt]
  have hbm9 : w.heap.size ≤ bm := Nat.le_trans hB7.size hbm
  have hA8 := hA7.below hb8
  have hB8 := hB7.trans (hb8.mono hB7.size)
  have HP8 := hideP (HP7.out.below hb8)
  have hS8 := hS7.below hb8
  clear hA7 hb8 hB7 HP7 hS7 hD
  go_wp2_with fail
  have hA8p := hA8.ps
  go_loopw [21, 22, 120] (fun v s i wr => ∃ k : Nat, k ≤ l.length ∧ i = .int .i64 k ∧ s = .int .i64 (sumW (l.take k)) ∧ wr.ownsRow w8.heap.size 37 2 v (scanL (l.take k) f t).length (cellsOf (scanL (l.take k) f t)) ∧ Below w8.heap.size w8 wr) (fun _ _ i _ => l.length - (intOf i).toNat)
  case atStart => exact ⟨0, Nat.zero_le _, rfl, rfl, World.ownsRow_nil _ _ _ _, Below.refl _ _⟩
  case round =>
    obtain ⟨k, hk, rfl, rfl, hrow, hbr⟩ := hrel
    by_cases hlt : k < l.length
    · obtain ⟨bb, bo, rfl, hbl, q1, q2⟩ := hA8p.below hbr k _ (List.getElem?_eq_getElem hlt)
      have HT := hideP (sumW_take l k hlt)
      have HS := hideP (scan_take hlt f t)
      have hsz := hbr.size
      have hlen := scan_len_take l k f t
      generalize l[k] = p at q1 q2 HT HS
      have HB := (hbr.alloc hbr.size (.cells #[.string p.1, .int .i64 p.2] 37))
      cases h1 : ltB p.1 f
      · cases h2 : (t.toList.isEmpty || ltB p.1 t)
        · have HS2 := hideP (show scanL (l.take (k + 1)) f t = scanL (l.take k) f t by rw [HS.out]; simp [h1, h2])
          have e1 : t.toList.isEmpty = false := by cases h : t.toList.isEmpty <;> simp_all
          have e2 : Op.bytesLess p.1.toList t.toList = false := by rw [e1] at h2; simpa [ltB] using h2
          have e3 : Op.bytesLess p.1.toList f.toList = false := h1
          clear h1 h2 HS
          generalize sumW (l.take k) = SU at HT
          have hrow2 := hrow.alloc (.cells #[.string p.1, .int .i64 p.2] 37)
          go_wp2_with fail
          go_roundw
          case rel => exact ⟨k + 1, by omega, by go_num, by rw [HT.out], by rw [HS2.out]; exact hrow2, HB⟩
          case measure => simp [intOf]; omega
        · have HS2 := hideP (show scanL (l.take (k + 1)) f t = scanL (l.take k) f t ++ [p] by rw [HS.out]; simp [h1, h2])
          have e3 : Op.bytesLess p.1.toList f.toList = false := h1
          clear h1 HS
          obtain ⟨v', w10, hrun, hown', hg', _⟩ := app_pairs ((wr.alloc (.cells #[.string p.1, .int .i64 p.2] 37)).alloc (.cells #[.string p.1, .int .i64 p.2] 37)) w8.heap.size 22 _ (scanL (l.take k) f t) ((hrow.alloc _).alloc _) _ (some ⟨(wr.alloc (.cells #[.string p.1, .int .i64 p.2] 37)).heap.size, 0, none⟩) 1 [p] (PS.one _ p.1 p.2 37) (by simp; omega) (by simp; omega)
          have HB2 := (HB.alloc (by simp; omega) (.cells #[.string p.1, .int .i64 p.2] 37)).grown hg' (by simp; omega) (fun j hj => (hrow.lt j hj).1)
          rw [show (wr.alloc (.cells #[.string p.1, .int .i64 p.2] 37)).heap.size = wr.heap.size + 1 by simp] at hrun
          have HR := hideP hrun
          have b1 : wr.heap.size < (wr.alloc (.cells #[.string p.1, .int .i64 p.2] 37)).heap.size := by simp
          have q5 : w10.cell? ⟨wr.heap.size, 1, none⟩ = some (.int .i64 p.2) := by
            rw [World.cell?_of_block (hg'.block wr.heap.size (by simp; omega) (fun e => by have := (hrow.lt _ e.symm).2; omega))]
            rw [World.cell?_alloc_lt _ _ _ b1]; simp
          clear hrun
          generalize sumW (l.take k) = SU at HT
          generalize scanL (l.take k) f t = sc at HS2 hown' hlen hrow
          cases ht : t.toList.isEmpty
          · have e2 : Op.bytesLess p.1.toList t.toList = true := by rw [ht] at h2; simpa [ltB] using h2
            clear h2
            go_wp2_with (at_builtin; refine Lib.wpList_append_run _ rfl _ _ _ _ rfl _ _ rfl rfl _ _ HR.out ?_)
            go_roundw
            case rel => exact ⟨k + 1, by omega, by go_num, by rw [HT.out], by rw [HS2.out]; exact hown', HB2⟩
            case measure => simp [intOf]; omega
          · clear h2
            go_wp2_with (at_builtin; refine Lib.wpList_append_run _ rfl _ _ _ _ rfl _ _ rfl rfl _ _ HR.out ?_)
            go_roundw
            case rel => exact ⟨k + 1, by omega, by go_num, by rw [HT.out], by rw [HS2.out]; exact hown', HB2⟩
            case measure => simp [intOf]; omega
      · have HS2 := hideP (show scanL (l.take (k + 1)) f t = scanL (l.take k) f t by rw [HS.out]; simp [h1])
        have e3 : Op.bytesLess p.1.toList f.toList = true := h1
        clear h1 HS
        generalize sumW (l.take k) = SU at HT
        have hrow2 := hrow.alloc (.cells #[.string p.1, .int .i64 p.2] 37)
        go_wp2_with fail
        go_roundw
        case rel => exact ⟨k + 1, by omega, by go_num, by rw [HT.out], by rw [HS2.out]; exact hrow2, HB⟩
        case measure => simp [intOf]; omega
    · obtain rfl : k = l.length := by omega
      rw [List.take_length] at hrow
      rw [List.take_length]
      obtain ⟨Am, cm, hv, hm⟩ := SV.of_own hrow
      rw [hv]
      have k3 : (sumW l != sumW l) = false := by simp
      generalize sumW l = SU at k3
      have hS9 := hS8.below hbr
      have hown9 := ownsMap_below hown hbr
      have HP9 := hideP (HP8.out.below hbr)
      have hB9 := hB8.trans (hbr.mono hB8.size)
      clear hv hrow hS8 hown HP8 hB8 hbr hA8 hA8p
      go_wp2_with fail
      refine (equal_same _ _ _ _ (scanL l f t) _ hS9.ps hm.ps (by omega)).mono ?_
      rintro e w10 ⟨rfl, hb10⟩
      have hown10 := ownsMap_below hown9 hb10
      have HP10 := hideP (HP9.out.below hb10)
      have hB10 := hB9.trans (hb10.mono hB9.size)
      clear hS9 hm hown9 HP9 hB9 hb10
      go_wp2_with fail
      refine (rkeyR_any _ _).mono ?_
      rintro e w11 ⟨rfl, hb11⟩
      have hown11 := ownsMap_below hown10 hb11
      have HP11 := hideP (HP10.out.below hb11)
      have hB11 := hB10.trans (hb11.mono hB10.size)
      clear hown10 HP10 hB10 hb11
      cases hkey : keyB key
      · have hg2 : gv = 0 ∧ gc = 3 := by
          rcases HG.out with ⟨h1, _⟩ | ⟨_, h2⟩
          · rw [hkey] at h1; cases h1
          · exact h2
        have hp2 : pv = .slice none 0 0 ∧ pc = 3 := by
          rcases HP11.out with ⟨_, h2⟩ | ⟨h1, _⟩ | ⟨h1, _⟩
          · exact h2
          · rw [hkey] at h1; cases h1
          · rw [hkey] at h1; cases h1
        obtain ⟨rfl, rfl⟩ := hg2
        obtain ⟨rfl, rfl⟩ := hp2
        clear HG HP11
        go_wp2_with fail
        go_ret
        exact ⟨rfl, hB11⟩
      · have hg2 : gv = valOf l key ∧ gc = 0 := by
          rcases HG.out with ⟨_, h2⟩ | ⟨h1, _⟩
          · exact h2
          · rw [hkey] at h1; cases h1
        obtain ⟨rfl, rfl⟩ := hg2
        have hks : key.size ≤ 6 := by simp [keyB] at hkey; exact hkey.1.2
        have hlook := look_any hown11 key (by unfold maxLen; omega)
        rw [HD.out] at hlook
        have k4 : (valOf l key != valOf l key) = false := by simp
        clear HG
        cases hval : valB n
        · have hp2 : pv = .slice none 0 0 ∧ pc = 1 := by
            rcases HP11.out with ⟨h1, _⟩ | ⟨_, _, h2⟩ | ⟨_, h1, _⟩
            · rw [hkey] at h1; cases h1
            · exact h2
            · rw [hval] at h1; cases h1
          obtain ⟨rfl, rfl⟩ := hp2
          clear HP11
          generalize valOf l key = VK at hlook k4
          go_wp2_with fail
          refine (rvalue_any _ _).mono ?_
          rintro e w' ⟨rfl, rfl⟩
          rw [hval]
          go_wp2_with fail
          go_ret
          exact ⟨rfl, hB11⟩
        · obtain ⟨rfl, Ap, cp, lp, rfl, hsp, hokp, hvp, hlp⟩ : pc = 0 ∧ ∃ A cp l', pv = .slice A l'.length cp ∧ SV w11 A cp l' ∧ Ok l' ∧ (∀ k, valOf l' k = if k = key then n else valOf l k) ∧ l'.length ≤ l.length + 1 := by
            rcases HP11.out with ⟨h1, _⟩ | ⟨_, h1, _⟩ | ⟨_, _, h2⟩
            · rw [hkey] at h1; cases h1
            · rw [hval] at h1; cases h1
            · exact h2
          have HVP : Hid (∀ j, mv (D.put (kl key) (.lit (.int .i64 n))) j = valOf lp j) := fun j => by
            rw [hvp]
            by_cases e : j = key
            · rw [if_pos e, e]; exact mv_put_same hM key n
            · rw [if_neg e, mv_put_other e, HD.out]
          have hwn : Hid ((Lit.int .i64 n).wf = true) := WalkArith.wf_i64 (by simp [valB] at hval; omega)
          clear HP11 hvp HD
          generalize valOf l key = VK at hlook k4
          go_wp2_with fail
          refine (rvalue_any _ _).mono ?_
          rintro e w' ⟨rfl, rfl⟩
          rw [hval]
          go_wp2_with (first
            | (at_mapUpdate; refine wpList_mapUpdate_own _ rfl _ _ _ 34 rfl 9 3 law9 Tryd.underlying34 _ bm l.length _ rfl hown11 (by unfold maxLen; omega) _ _ _ rfl rfl (keyOf_string_mk Tryd.underlying9 (by unfold maxLen; omega)) _ [] (plainElem_int Tryd.underlying3 hwn.out) ?_; intro w12 hown12 hg12; go_frame)
            | fail)
          have hsp12 := hsp.map_ hg12 hown11
          have hB12 : Below w.heap.size w w12 := hB11.grown hg12 hB11.size (fun j hj => by cases hj; exact hbm9)
          have hs12 := hown12.size_le
          clear hsp hown11 hg12 hB11 hlook
          go_wp2_with fail
          refine (list_any bm (l.length + 1) _ _ hown12 (by omega)).mono ?_
          rintro e w13 ⟨Aq, cq, m, rfl, hsq, hli, _, hb13⟩
          obtain rfl : m = lp := lists_eq hokp HVP.out hli
          have hsp13 := hsp12.below hb13
          have hB13 := hB12.trans (hb13.mono hB12.size)
          clear hsp12 hB12 hb13 hli HVP hown12
          go_wp2_with fail
          refine (equal_same _ _ _ _ m _ hsp13.ps hsq.ps (by omega)).mono ?_
          rintro e w14 ⟨rfl, hb14⟩
          have hB14 := hB13.trans (hb14.mono hB13.size)
          go_wp2_with fail
          go_ret
          exact ⟨rfl, hB14⟩
end Go.Proofs.YtikklfoenjmdgaaDoor
