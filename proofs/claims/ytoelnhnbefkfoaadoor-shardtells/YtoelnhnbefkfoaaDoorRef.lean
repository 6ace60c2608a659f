/-
  roref.Store and Of: what they answer.
-/
import Derived.Test.YtoelnhnbefkfoaaDoorList
import Derived.Test.YtoelnhnbefkfoaaDoorCheck
import Derived.Test.YtoelnhnbefkfoaaDoorRKey
set_option linter.unusedVariables false
set_option linter.unusedSimpArgs false
namespace Go.Proofs.YtoelnhnbefkfoaaDoor
open Go.RowKit Go.WideMaps Go.Maps

set_option maxHeartbeats 1000000 in
set_option maxRecDepth 100000 in
theorem rstore_any (A : Option Addr) (c : Nat) (l : List Pr) (w : World) (hA : PS w w.heap.size A l) (hl : l.length < 4611686018427387904) :
    Calls Tryd.prog 21 #[.slice A l.length c] w fun e w' => e = .returned (.int .i64 (chk ByteArray.empty l)) ∧ Below w.heap.size w w' := by
  go_enter Tryd.func21, Tryd.ntmps21
  go_wp2
  go_loopw [3, 8] (fun s i wr => ∃ (k : Nat) (bf : ByteArray), k ≤ l.length ∧ i = .int .i64 k ∧ s = .string bf ∧ chk ByteArray.empty l = chk bf (l.drop k) ∧ Below w.heap.size w wr) (fun _ i _ => l.length - (intOf i).toNat)
  case atStart => exact ⟨0, ByteArray.empty, Nat.zero_le _, rfl, rfl, rfl, Below.refl _ _⟩
  case round =>
    obtain ⟨k, bf, hk, rfl, rfl, hchk, hb⟩ := hrel
    have HC := hideP hchk
    clear hchk
    by_cases hlt : k < l.length
    · obtain ⟨b, o, rfl, hbl, c1, c2⟩ := hA.below hb k _ (List.getElem?_eq_getElem hlt)
      clear hA
      generalize hp : l[k] = p at c1 c2
      have HP := hideP hp
      clear hp
      have hsz := hb.size
      have HB := (hb.alloc hb.size (.cells #[.string p.1, .int .i64 p.2] 50))
      have q1 : (wr.alloc (.cells #[.string p.1, .int .i64 p.2] 50)).cell? ⟨wr.heap.size, 0, none⟩ = some (.string p.1) := by simp
      have q2 : (wr.alloc (.cells #[.string p.1, .int .i64 p.2] 50)).cell? ⟨wr.heap.size, 1, none⟩ = some (.int .i64 p.2) := by simp
      have hs1 : wr.heap.size < (wr.alloc (.cells #[.string p.1, .int .i64 p.2] 50)).heap.size := by simp
      go_wp2_with fail
      refine (rkeyR_any _ _).mono ?_
      rintro e w1 ⟨rfl, hbk⟩
      have q1 := (hbk.cell (p := ⟨wr.heap.size, 0, none⟩) hs1).trans q1
      have q2 := (hbk.cell (p := ⟨wr.heap.size, 1, none⟩) hs1).trans q2
      have HB1 := HB.trans (hbk.mono HB.size)
      clear hbk HB
      cases hkb : keyB p.1
      · go_wp2_with fail
        go_ret
        exact ⟨ret_int (by rw [HC.out, chk_key hlt HP.out hkb]), HB1⟩
      · by_cases h0 : p.2 = 0
        · have d0 : (p.2 == 0) = true := by simp [h0]
          have H0 := hideP h0
          clear h0
          have HV := hideP (show valB p.2 = true by rw [H0.out]; rfl)
          go_wp2_with fail
          go_ret
          exact ⟨ret_int (by rw [HC.out, chk_zero hlt HP.out hkb HV.out H0.out]), HB1⟩
        · have d0 : (p.2 == 0) = false := by simp [h0]
          have H0 := hideP h0
          clear h0
          go_wp2_with fail
          refine (rvalue_any _ _).mono ?_
          rintro e w' ⟨rfl, rfl⟩
          cases hvb : valB p.2
          · go_wp2_with fail
            go_ret
            exact ⟨ret_int (by rw [HC.out, chk_val hlt HP.out hkb hvb]), HB1⟩
          · cases hle : leB p.1 bf
            · have HL := hideP hle
              have d1 : Op.bytesLess p.1.toList bf.toList = false := by simp [leB] at hle; exact hle.1
              have d2 : (p.1.toList == bf.toList) = false := by simp [leB] at hle; simpa using hle.2
              clear hle
              go_wp2_with fail
              go_roundw
              case rel => exact ⟨k + 1, p.1, by omega, by go_num, rfl, by rw [HC.out, chk_next hlt HP.out hkb hvb H0.out HL.out], HB1⟩
              case measure => simp [intOf]; omega
            · have HL := hideP hle
              have d1 : (Op.bytesLess p.1.toList bf.toList || p.1.toList == bf.toList) = true := by simpa [leB] using hle
              clear hle
              go_wp2_with fail
              go_ret
              exact ⟨ret_int (by rw [HC.out, chk_ord hlt HP.out hkb hvb H0.out HL.out]), HB1⟩
    · go_wp2
      go_ret
      exact ⟨ret_int (by rw [HC.out, List.drop_of_length_le (by omega)]; rfl), hb⟩

/-- pairs that can be read: their keys and values are Go's -/
def Rd (l : List Pr) : Prop := ∀ p ∈ l, p.1.size ≤ maxLen ∧ (Lit.int .i64 p.2).wf = true
theorem Ok.rd {l : List Pr} (h : Ok l) : Rd l := fun p hp => by
  have h1 := h.key p hp
  have h2 := h.val p hp
  simp [keyB] at h1
  simp [valB] at h2
  exact ⟨by unfold maxLen; omega, WalkArith.wf_i64 (by omega)⟩
/-- the last value of a key -/
def lastV (l : List Pr) (k : ByteArray) : Int := l.foldl (fun v p => if cmpB p.1 k = 0 then p.2 else v) 0
theorem lastV_snoc (l : List Pr) (p : Pr) (k : ByteArray) : lastV (l ++ [p]) k = if cmpB p.1 k = 0 then p.2 else lastV l k := by simp [lastV, List.foldl_append]
theorem lastV_eq {l : List Pr} (h : l.Pairwise (fun p q => ltB p.1 q.1 = true)) (k : ByteArray) : lastV l k = valOf l k := by
  have hgo : ∀ (l : List Pr) (v : Int), l.Pairwise (fun p q => ltB p.1 q.1 = true) → l.foldl (fun v p => if cmpB p.1 k = 0 then p.2 else v) v = if (∃ p ∈ l, p.1 = k) then valOf l k else v := by
    intro l
    induction l with
    | nil => intro v _; simp
    | cons p r ih =>
      intro v h
      have h' := List.pairwise_cons.1 h
      rw [List.foldl_cons, ih _ h'.2]
      by_cases e : p.1 = k
      · have hc : cmpB p.1 k = 0 := cmpB_zero.2 e
        have hn : ¬ ∃ q ∈ r, q.1 = k := fun ⟨q, hq, e2⟩ => ltB_ne (h'.1 q hq) (by rw [e, e2])
        rw [if_neg hn, if_pos hc, if_pos ⟨p, by simp, e⟩]
        simp [valOf, hc]
      · have hc : cmpB p.1 k ≠ 0 := fun h => e (cmpB_zero.1 h)
        rw [if_neg hc]
        by_cases hr : ∃ q ∈ r, q.1 = k
        · obtain ⟨q, hq, e2⟩ := hr
          rw [if_pos ⟨q, hq, e2⟩, if_pos ⟨q, by simp [hq], e2⟩]
          simp [valOf, hc]
        · rw [if_neg hr, if_neg (fun ⟨q, hq, e2⟩ => by rcases List.mem_cons.1 hq with rfl | hq; exact e e2; exact hr ⟨q, hq, e2⟩)]
  unfold lastV
  rw [hgo l 0 h]
  by_cases hr : ∃ p ∈ l, p.1 = k
  · rw [if_pos hr]
  · rw [if_neg hr, valOf_none fun p hp e => hr ⟨p, hp, e⟩]

/-- a new map is handed back -/
def RetMap (w : World) (f : ByteArray → Int) (n : Nat) (e : Ending) (w' : World) : Prop :=
  ∃ b D, e = .returned (.map (some b)) ∧ w'.ownsMap Tryd.prog 9 (plainElem Tryd.prog 3) b n D ∧ IsMap D ∧ (∀ k, mv D k = f k) ∧ w.heap.size ≤ b ∧ Below w.heap.size w w'

set_option maxHeartbeats 1000000 in
set_option maxRecDepth 100000 in
theorem of_any (A : Option Addr) (c : Nat) (l : List Pr) (w : World) (hA : PS w w.heap.size A l) (hl : l.length < 4611686018427387904) (hr : Rd l) :
    Calls Tryd.prog 25 #[.slice A l.length c] w (RetMap w (lastV l) l.length) := by
  have hmm := @run_makeMap Tryd.prog
  go_enter Tryd.func25, Tryd.ntmps25
  go_wp2_with fail
  go_loopw [9] (fun i wr => ∃ (k : Nat) (D : DataW Unit), k ≤ l.length ∧ i = .int .i64 k ∧ wr.ownsMap Tryd.prog 9 (plainElem Tryd.prog 3) w.heap.size k D ∧ IsMap D ∧ (∀ j, mv D j = lastV (l.take k) j) ∧ Below w.heap.size w wr) (fun i _ => l.length - (intOf i).toNat)
  case atStart => exact ⟨0, .map [], Nat.zero_le _, rfl, World.ownsMap_made _ _ _ _, isMap_empty, (fun j => mv_empty j), (Below.refl _ _).alloc (Nat.le_refl _) _⟩
  case round =>
    obtain ⟨k, D, hk, rfl, hown, hM, hD, hb⟩ := hrel
    have HD := hideP hD
    clear hD
    by_cases hlt : k < l.length
    · obtain ⟨b, o, rfl, hbl, c1, c2⟩ := hA.below hb k _ (List.getElem?_eq_getElem hlt)
      obtain ⟨r1, r2⟩ := hr _ (List.getElem_mem hlt)
      have HT := hideP (show l.take (k + 1) = l.take k ++ [l[k]] from List.take_succ_eq_append_getElem hlt)
      clear hA hr
      generalize l[k] = p at c1 c2 r1 r2 HT
      have hsz := hb.size
      have HB := (hb.alloc hb.size (.cells #[.string p.1, .int .i64 p.2] 50))
      have hown2 := hown.alloc (.cells #[.string p.1, .int .i64 p.2] 50)
      have R2 := hideP r2
      clear r2
      go_wp2_with (first
        | (at_mapUpdate; refine wpList_mapUpdate_own _ rfl _ _ _ 53 rfl 9 3 law9 Tryd.underlying53 _ w.heap.size k _ rfl hown2 (by unfold maxLen; omega) _ _ _ rfl rfl (keyOf_string_mk Tryd.underlying9 r1) _ [] (plainElem_int Tryd.underlying3 R2.out) ?_; intro w3 hown3 hg3; go_frame)
        | go_in)
      go_roundw
      case rel =>
        refine ⟨k + 1, _, by omega, by go_num, hown3, hM.put _ _, fun j => ?_, HB.grown hg3 HB.size (fun j hj => by cases hj; exact Nat.le_refl _)⟩
        rw [HT.out, lastV_snoc]
        by_cases e : p.1 = j
        · rw [if_pos (cmpB_zero.2 e), ← e]; exact mv_put_same hM p.1 p.2
        · rw [if_neg (fun h => e (cmpB_zero.1 h)), ← HD.out]; exact mv_put_other (fun h => e h.symm) p.2
      case measure => simp [intOf]; omega
    · have hkl : k = l.length := by omega
      subst hkl
      have hf : RetMap w (lastV l) l.length (.returned (.map (some w.heap.size))) wr := ⟨w.heap.size, D, rfl, hown, hM, fun j => by rw [HD.out, List.take_length], Nat.le_refl _, hb⟩
      have HF := hideP hf
      clear hf
      go_wp2_with fail
      go_ret
      exact HF.out
theorem zero3 (w : World) : (zeroValue 3).run Tryd.prog w = .ok (.int .i64 0) w := by kernel_rfl
theorem look_any {w : World} {b n : Nat} {D : DataW Unit} (hown : w.ownsMap Tryd.prog 9 (plainElem Tryd.prog 3) b n D) (x : ByteArray) (hx : x.size ≤ maxLen) :
    (Instr.lookup 53 (.map (some b)) (.string x) false).run Tryd.prog w = .ok (.int .i64 (mv D x)) w := by
  obtain ⟨c, hrun, hat, _⟩ := hown.lookup_int law9 Tryd.underlying53 Tryd.underlying3 (zero3 w) (keyOf_string_mk Tryd.underlying9 hx)
  have : mv D x = c := by unfold mv; rw [show kl x = .string x.data.toList from rfl, hat]
  rw [this]; exact hrun
end Go.Proofs.YtoelnhnbefkfoaaDoor
