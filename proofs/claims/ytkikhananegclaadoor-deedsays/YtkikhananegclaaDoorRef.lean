/-
  roref.within, Key, Value, Store and Of: what they answer.
-/
import Derived.Test.YtkikhananegclaaDoorList
import Derived.Test.YtkikhananegclaaDoorCheck
import Derived.Shelf.Strings.SlTrimAscii
set_option linter.unusedVariables false
set_option linter.unusedSimpArgs false
namespace Go.Proofs.YtkikhananegclaaDoor
open Go.RowKit Go.WideMaps Go.Maps

set_option maxHeartbeats 400000 in
theorem rwithin_any (x a b : Int) (w : World) :
    Calls Tryd.prog 28 #[.int .i64 x, .int .i64 a, .int .i64 b] w fun e w' => e = .returned (.bool (decide (a ≤ x) && decide (x ≤ b))) ∧ w = w' := by
  by_cases h1 : a ≤ x <;> by_cases h2 : x ≤ b
  all_goals
    go_enter Tryd.func28, Tryd.ntmps28
    go_wp2
    go_ret
    exact ⟨ret_bool (by simp [h1, h2]), rfl⟩

set_option maxHeartbeats 400000 in
theorem rvalue_any (n : Int) (w : World) : Calls Tryd.prog 30 #[.int .i64 n] w fun e w' => e = .returned (.bool (valB n)) ∧ w = w' := by
  go_enter Tryd.func30, Tryd.ntmps30
  go_wp2_with fail
  refine (rwithin_any n (-1000000000) 1000000000 _).mono ?_
  rintro e w' ⟨rfl, rfl⟩
  rw [show (decide ((-1000000000 : Int) ≤ n) && decide (n ≤ 1000000000)) = valB n from rfl]
  go_wp2_with fail
  go_ret
  exact ⟨rfl, rfl⟩

def abcL : List UInt8 := [97, 98, 99, 100, 101, 102, 103, 104, 105, 106, 107, 108, 109, 110, 111, 112, 113, 114, 115, 116, 117, 118, 119, 120, 121, 122]
theorem abc_low : ∀ c : UInt8, abcL.contains c = lowB c := by
  have h : ∀ n : Fin 256, abcL.contains (UInt8.ofNat n.val) = lowB (UInt8.ofNat n.val) := by decide +kernel
  intro c
  have := h ⟨c.toNat, c.toNat_lt⟩
  simpa using this
theorem dropWhile_nil {p : UInt8 → Bool} {l : List UInt8} : l.dropWhile p = [] ↔ l.all p = true := by
  induction l with
  | nil => simp
  | cons a r ih => cases h : p a <;> simp [List.dropWhile_cons, h, ih]
theorem all_append_dropWhile {p : UInt8 → Bool} (l : List UInt8) : l.all p = (l.dropWhile p).all p := by
  induction l with
  | nil => rfl
  | cons a r ih => cases h : p a <;> simp [List.dropWhile_cons, h, ih]
theorem trim_nil (l : List UInt8) : (Lib.trimS l abcL).isEmpty = l.all lowB := by
  have e : (fun c => abcL.contains c) = lowB := funext abc_low
  unfold Lib.trimS Lib.trimLeftS Lib.trimRightS
  rw [e]
  have h : (l.reverse.dropWhile lowB).reverse.all lowB = l.all lowB := by
    rw [List.all_reverse, ← all_append_dropWhile, List.all_reverse]
  rw [← h]
  rw [Bool.eq_iff_iff, List.isEmpty_iff, dropWhile_nil]

set_option maxHeartbeats 400000 in
set_option maxRecDepth 100000 in
theorem rkeyR_any (s : ByteArray) (w : World) : Calls Tryd.prog 29 #[.string s] w fun e w' => e = .returned (.bool (keyB s)) ∧ Below w.heap.size w w' := by
  by_cases hin : 1 ≤ s.size ∧ s.size ≤ 6
  · have hcon := Any.strings_Trim_laid Tryd.trim (by kernel_rfl) s ⟨#[97, 98, 99, 100, 101, 102, 103, 104, 105, 106, 107, 108, 109, 110, 111, 112, 113, 114, 115, 116, 117, 118, 119, 120, 121, 122]⟩ w (by omega) (by decide) (ascii_of_all (by decide))
    change Calls Tryd.prog 42 _ _ (fun e w' => e = .returned (.string ⟨(Lib.trimS s.data.toList abcL).toArray⟩) ∧ Below w.heap.size w w') at hcon
    have ht := trim_nil s.data.toList
    have hk : keyB s = (⟨(Lib.trimS s.data.toList abcL).toArray⟩ : ByteArray).toList.isEmpty := by
      rw [ByteArray.toList_eq]
      show keyB s = (Lib.trimS s.data.toList abcL).isEmpty
      rw [ht]; simp [keyB, hin.1, hin.2]
    generalize (⟨(Lib.trimS s.data.toList abcL).toArray⟩ : ByteArray) = r at hcon hk
    have HC := hideP hcon
    have HK := hideP hk
    clear hcon hk ht
    go_enter Tryd.func29, Tryd.ntmps29
    go_wp2_with fail
    refine (rwithin_any _ _ _ _).mono ?_
    rintro e w' ⟨rfl, rfl⟩
    rw [show (decide ((1 : Int) ≤ (s.size : Int)) && decide ((s.size : Int) ≤ 6)) = true by simp; omega]
    cases hr : r.toList.isEmpty
    · go_wp2_with fail
      refine HC.out.mono ?_
      rintro e w1 ⟨rfl, hb⟩
      go_wp2_with fail
      go_ret
      exact ⟨ret_bool (by rw [HK.out, hr]), hb⟩
    · go_wp2_with fail
      refine HC.out.mono ?_
      rintro e w1 ⟨rfl, hb⟩
      go_wp2_with fail
      go_ret
      exact ⟨ret_bool (by rw [HK.out, hr]), hb⟩
  · have hk : keyB s = false := by
      cases h : keyB s
      · rfl
      · simp [keyB] at h; exact absurd h.1 hin
    have HK := hideP hk
    clear hk
    go_enter Tryd.func29, Tryd.ntmps29
    go_wp2_with fail
    refine (rwithin_any _ _ _ _).mono ?_
    rintro e w' ⟨rfl, rfl⟩
    rw [show (decide ((1 : Int) ≤ (s.size : Int)) && decide ((s.size : Int) ≤ 6)) = false by rw [Bool.eq_false_iff]; simp; omega]
    go_wp2_with fail
    go_ret
    exact ⟨ret_bool HK.out.symm, Below.refl _ _⟩
set_option maxHeartbeats 1000000 in
set_option maxRecDepth 100000 in
theorem rstore_any (A : Option Addr) (c : Nat) (l : List Pr) (w : World) (hA : PS w w.heap.size A l) (hl : l.length < 4611686018427387904) :
    Calls Tryd.prog 16 #[.slice A l.length c] w fun e w' => e = .returned (.int .i64 (chk ByteArray.empty l)) ∧ Below w.heap.size w w' := by
  go_enter Tryd.func16, Tryd.ntmps16
  go_wp2
  go_loopw [3, 8] (fun s i wr => ∃ (k : Nat) (bf : ByteArray), k ≤ l.length ∧ i = .int .i64 k ∧ s = .string bf ∧ chk ByteArray.empty l = chk bf (l.drop k) ∧ Below w.heap.size w wr) (fun _ i _ => l.length - (intOf i).toNat)
  case atStart => exact ⟨0, ByteArray.empty, Nat.zero_le _, rfl, rfl, rfl, Below.refl _ _⟩
  case round =>
    obtain ⟨k, bf, hk, rfl, rfl, hchk, hb⟩ := hrel
    have HC := hideP hchk
    clear hchk
    by_cases hlt : k < l.length
    · obtain ⟨b, o, rfl, hbl, c1, c2⟩ := hA.below hb k _ (List.getElem?_eq_getElem hlt)
      clear hA
      generalize hp : l[k] = p at c1 c2
      have HP := hideP hp
      clear hp
      have hsz := hb.size
      have HB := (hb.alloc hb.size (.cells #[.string p.1, .int .i64 p.2] 49))
      have q1 : (wr.alloc (.cells #[.string p.1, .int .i64 p.2] 49)).cell? ⟨wr.heap.size, 0, none⟩ = some (.string p.1) := by simp
      have q2 : (wr.alloc (.cells #[.string p.1, .int .i64 p.2] 49)).cell? ⟨wr.heap.size, 1, none⟩ = some (.int .i64 p.2) := by simp
      have hs1 : wr.heap.size < (wr.alloc (.cells #[.string p.1, .int .i64 p.2] 49)).heap.size := by simp
      go_wp2_with fail
      refine (rkeyR_any _ _).mono ?_
      rintro e w1 ⟨rfl, hbk⟩
      have q1 := (hbk.cell (p := ⟨wr.heap.size, 0, none⟩) hs1).trans q1
      have q2 := (hbk.cell (p := ⟨wr.heap.size, 1, none⟩) hs1).trans q2
      have HB1 := HB.trans (hbk.mono HB.size)
      clear hbk HB
      cases hkb : keyB p.1
      · go_wp2_with fail
        go_ret
        exact ⟨ret_int (by rw [HC.out, chk_key hlt HP.out hkb]), HB1⟩
      · by_cases h0 : p.2 = 0
        · have d0 : (p.2 == 0) = true := by simp [h0]
          have H0 := hideP h0
          clear h0
          have HV := hideP (show valB p.2 = true by rw [H0.out]; rfl)
          go_wp2_with fail
          go_ret
          exact ⟨ret_int (by rw [HC.out, chk_zero hlt HP.out hkb HV.out H0.out]), HB1⟩
        · have d0 : (p.2 == 0) = false := by simp [h0]
          have H0 := hideP h0
          clear h0
          go_wp2_with fail
          refine (rvalue_any _ _).mono ?_
          rintro e w' ⟨rfl, rfl⟩
          cases hvb : valB p.2
          · go_wp2_with fail
            go_ret
            exact ⟨ret_int (by rw [HC.out, chk_val hlt HP.out hkb hvb]), HB1⟩
          · cases hle : leB p.1 bf
            · have HL := hideP hle
              have d1 : Op.bytesLess p.1.toList bf.toList = false := by simp [leB] at hle; exact hle.1
              have d2 : (p.1.toList == bf.toList) = false := by simp [leB] at hle; simpa using hle.2
              clear hle
              go_wp2_with fail
              go_roundw
              case rel => exact ⟨k + 1, p.1, by omega, by go_num, rfl, by rw [HC.out, chk_next hlt HP.out hkb hvb H0.out HL.out], HB1⟩
              case measure => simp [intOf]; omega
            · have HL := hideP hle
              have d1 : (Op.bytesLess p.1.toList bf.toList || p.1.toList == bf.toList) = true := by simpa [leB] using hle
              clear hle
              go_wp2_with fail
              go_ret
              exact ⟨ret_int (by rw [HC.out, chk_ord hlt HP.out hkb hvb H0.out HL.out]), HB1⟩
    · go_wp2
      go_ret
      exact ⟨ret_int (by rw [HC.out, List.drop_of_length_le (by omega)]; rfl), hb⟩

/-- pairs that can be read: their keys and values are Go's -/
def Rd (l : List Pr) : Prop := ∀ p ∈ l, p.1.size ≤ maxLen ∧ (Lit.int .i64 p.2).wf = true
theorem Ok.rd {l : List Pr} (h : Ok l) : Rd l := fun p hp => by
  have h1 := h.key p hp
  have h2 := h.val p hp
  simp [keyB] at h1
  simp [valB] at h2
  exact ⟨by unfold maxLen; omega, WalkArith.wf_i64 (by omega)⟩
/-- the last value of a key -/
def lastV (l : List Pr) (k : ByteArray) : Int := l.foldl (fun v p => if cmpB p.1 k = 0 then p.2 else v) 0
theorem lastV_snoc (l : List Pr) (p : Pr) (k : ByteArray) : lastV (l ++ [p]) k = if cmpB p.1 k = 0 then p.2 else lastV l k := by simp [lastV, List.foldl_append]
theorem lastV_eq {l : List Pr} (h : l.Pairwise (fun p q => ltB p.1 q.1 = true)) (k : ByteArray) : lastV l k = valOf l k := by
  have hgo : ∀ (l : List Pr) (v : Int), l.Pairwise (fun p q => ltB p.1 q.1 = true) → l.foldl (fun v p => if cmpB p.1 k = 0 then p.2 else v) v = if (∃ p ∈ l, p.1 = k) then valOf l k else v := by
    intro l
    induction l with
    | nil => intro v _; simp
    | cons p r ih =>
      intro v h
      have h' := List.pairwise_cons.1 h
      rw [List.foldl_cons, ih _ h'.2]
      by_cases e : p.1 = k
      · have hc : cmpB p.1 k = 0 := cmpB_zero.2 e
        have hn : ¬ ∃ q ∈ r, q.1 = k := fun ⟨q, hq, e2⟩ => ltB_ne (h'.1 q hq) (by rw [e, e2])
        rw [if_neg hn, if_pos hc, if_pos ⟨p, by simp, e⟩]
        simp [valOf, hc]
      · have hc : cmpB p.1 k ≠ 0 := fun h => e (cmpB_zero.1 h)
        rw [if_neg hc]
        by_cases hr : ∃ q ∈ r, q.1 = k
        · obtain ⟨q, hq, e2⟩ := hr
          rw [if_pos ⟨q, hq, e2⟩, if_pos ⟨q, by simp [hq], e2⟩]
          simp [valOf, hc]
        · rw [if_neg hr, if_neg (fun ⟨q, hq, e2⟩ => by rcases List.mem_cons.1 hq with rfl | hq; exact e e2; exact hr ⟨q, hq, e2⟩)]
  unfold lastV
  rw [hgo l 0 h]
  by_cases hr : ∃ p ∈ l, p.1 = k
  · rw [if_pos hr]
  · rw [if_neg hr, valOf_none fun p hp e => hr ⟨p, hp, e⟩]

/-- a new map is handed back -/
def RetMap (w : World) (f : ByteArray → Int) (n : Nat) (e : Ending) (w' : World) : Prop :=
  ∃ b D, e = .returned (.map (some b)) ∧ w'.ownsMap Tryd.prog 9 (plainElem Tryd.prog 3) b n D ∧ IsMap D ∧ (∀ k, mv D k = f k) ∧ w.heap.size ≤ b ∧ Below w.heap.size w w'

set_option maxHeartbeats 1000000 in
set_option maxRecDepth 100000 in
theorem of_any (A : Option Addr) (c : Nat) (l : List Pr) (w : World) (hA : PS w w.heap.size A l) (hl : l.length < 4611686018427387904) (hr : Rd l) :
    Calls Tryd.prog 18 #[.slice A l.length c] w (RetMap w (lastV l) l.length) := by
  have hmm := @run_makeMap Tryd.prog
  go_enter Tryd.func18, Tryd.ntmps18
  go_wp2_with fail
  go_loopw [9] (fun i wr => ∃ (k : Nat) (D : DataW Unit), k ≤ l.length ∧ i = .int .i64 k ∧ wr.ownsMap Tryd.prog 9 (plainElem Tryd.prog 3) w.heap.size k D ∧ IsMap D ∧ (∀ j, mv D j = lastV (l.take k) j) ∧ Below w.heap.size w wr) (fun i _ => l.length - (intOf i).toNat)
  case atStart => exact ⟨0, .map [], Nat.zero_le _, rfl, World.ownsMap_made _ _ _ _, isMap_empty, (fun j => mv_empty j), (Below.refl _ _).alloc (Nat.le_refl _) _⟩
  case round =>
    obtain ⟨k, D, hk, rfl, hown, hM, hD, hb⟩ := hrel
    have HD := hideP hD
    clear hD
    by_cases hlt : k < l.length
    · obtain ⟨b, o, rfl, hbl, c1, c2⟩ := hA.below hb k _ (List.getElem?_eq_getElem hlt)
      obtain ⟨r1, r2⟩ := hr _ (List.getElem_mem hlt)
      have HT := hideP (show l.take (k + 1) = l.take k ++ [l[k]] from List.take_succ_eq_append_getElem hlt)
      clear hA hr
      generalize l[k] = p at c1 c2 r1 r2 HT
      have hsz := hb.size
      have HB := (hb.alloc hb.size (.cells #[.string p.1, .int .i64 p.2] 49))
      have hown2 := hown.alloc (.cells #[.string p.1, .int .i64 p.2] 49)
      have R2 := hideP r2
      clear r2
      go_wp2_with (first
        | (at_mapUpdate; refine wpList_mapUpdate_own _ rfl _ _ _ 52 rfl 9 3 law9 Tryd.underlying52 _ w.heap.size k _ rfl hown2 (by unfold maxLen; omega) _ _ _ rfl rfl (keyOf_string_mk Tryd.underlying9 r1) _ [] (plainElem_int Tryd.underlying3 R2.out) ?_; intro w3 hown3 hg3; go_frame)
        | go_in)
      go_roundw
      case rel =>
        refine ⟨k + 1, _, by omega, by go_num, hown3, hM.put _ _, fun j => ?_, HB.grown hg3 HB.size (fun j hj => by cases hj; exact Nat.le_refl _)⟩
        rw [HT.out, lastV_snoc]
        by_cases e : p.1 = j
        · rw [if_pos (cmpB_zero.2 e), ← e]; exact mv_put_same hM p.1 p.2
        · rw [if_neg (fun h => e (cmpB_zero.1 h)), ← HD.out]; exact mv_put_other (fun h => e h.symm) p.2
      case measure => simp [intOf]; omega
    · have hkl : k = l.length := by omega
      subst hkl
      have hf : RetMap w (lastV l) l.length (.returned (.map (some w.heap.size))) wr := ⟨w.heap.size, D, rfl, hown, hM, fun j => by rw [HD.out, List.take_length], Nat.le_refl _, hb⟩
      have HF := hideP hf
      clear hf
      go_wp2_with fail
      go_ret
      exact HF.out
theorem zero3 (w : World) : (zeroValue 3).run Tryd.prog w = .ok (.int .i64 0) w := by kernel_rfl
theorem look_any {w : World} {b n : Nat} {D : DataW Unit} (hown : w.ownsMap Tryd.prog 9 (plainElem Tryd.prog 3) b n D) (x : ByteArray) (hx : x.size ≤ maxLen) :
    (Instr.lookup 52 (.map (some b)) (.string x) false).run Tryd.prog w = .ok (.int .i64 (mv D x)) w := by
  obtain ⟨c, hrun, hat, _⟩ := hown.lookup_int law9 Tryd.underlying52 Tryd.underlying3 (zero3 w) (keyOf_string_mk Tryd.underlying9 hx)
  have : mv D x = c := by unfold mv; rw [show kl x = .string x.data.toList from rfl, hat]
  rw [this]; exact hrun
end Go.Proofs.YtkikhananegclaaDoor
