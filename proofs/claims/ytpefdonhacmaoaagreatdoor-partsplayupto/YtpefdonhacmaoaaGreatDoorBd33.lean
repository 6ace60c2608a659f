/-
  roref.Store and Of: what they answer.
  Maps of values of the call's own; roref.Of and roref.List at them.
  Sets as maps from strings to bool, of the call's own: stores, look-ups (no body of the program in it).
-/
import Derived.Test.YtpefdonhacmaoaaGreatDoorBd32
import Derived.Test.YtpefdonhacmaoaaGreatDoorBd8
import Derived.Test.YtpefdonhacmaoaaGreatDoorBd29
import Derived.Test.YtpefdonhacmaoaaGreatDoorBd14
import Derived.Test.YtpefdonhacmaoaaGreatDoorBd12
import Derived.Test.YtpefdonhacmaoaaGreatDoorBd3
import Derived.WalkKit
import Derived.WalkSpells
import Derived.WalkLawsBesides
import Derived.Maps.Own
import Derived.Maps.OwnOps
import Derived.Maps.OwnSet
set_option linter.unusedVariables false
set_option linter.unusedSimpArgs false
namespace Go.Proofs.YtpefdonhacmaoaaGreatDoor
open Go.RowKit Go.WideMaps Go.Maps

set_option maxHeartbeats 1000000 in
set_option maxRecDepth 100000 in
theorem rstore_any (A : Option Addr) (c : Nat) (l : List Pr) (w : World) (hA : PS w w.heap.size A l) (hl : l.length < 4611686018427387904) :
    Calls Tryz.prog 7 #[.slice A l.length c] w fun e w' => e = .returned (.int .i64 (chk ByteArray.empty l)) ∧ Below w.heap.size w w' := by
  go_enter Tryz.func7, Tryz.ntmps7
  go_wp2
  go_loopw [3, 8] (fun s i wr => ∃ (k : Nat) (bf : ByteArray), k ≤ l.length ∧ i = .int .i64 k ∧ s = .string bf ∧ chk ByteArray.empty l = chk bf (l.drop k) ∧ Below w.heap.size w wr) (fun _ i _ => l.length - (intOf i).toNat)
  case atStart => exact ⟨0, ByteArray.empty, Nat.zero_le _, rfl, rfl, rfl, Below.refl _ _⟩
  case round =>
    obtain ⟨k, bf, hk, rfl, rfl, hchk, hb⟩ := hrel
    have HC := hideP hchk
    clear hchk
    by_cases hlt : k < l.length
    · obtain ⟨b, o, rfl, hbl, c1, c2⟩ := hA.below hb k _ (List.getElem?_eq_getElem hlt)
      clear hA
      generalize hp : l[k] = p at c1 c2
      have HP := hideP hp
      clear hp
      have hsz := hb.size
      have HB := (hb.alloc hb.size (.cells #[.string p.1, .int .i64 p.2] 55))
      have q1 : (wr.alloc (.cells #[.string p.1, .int .i64 p.2] 55)).cell? ⟨wr.heap.size, 0, none⟩ = some (.string p.1) := by simp
      have q2 : (wr.alloc (.cells #[.string p.1, .int .i64 p.2] 55)).cell? ⟨wr.heap.size, 1, none⟩ = some (.int .i64 p.2) := by simp
      have hs1 : wr.heap.size < (wr.alloc (.cells #[.string p.1, .int .i64 p.2] 55)).heap.size := by simp
      go_wp2_with fail
      refine (rkeyR_any _ _).mono ?_
      rintro e w1 ⟨rfl, hbk⟩
      have q1 := (hbk.cell (p := ⟨wr.heap.size, 0, none⟩) hs1).trans q1
      have q2 := (hbk.cell (p := ⟨wr.heap.size, 1, none⟩) hs1).trans q2
      have HB1 := HB.trans (hbk.mono HB.size)
      clear hbk HB
      cases hkb : keyB p.1
      · go_wp2_with fail
        go_ret
        exact ⟨ret_int (by rw [HC.out, chk_key hlt HP.out hkb]), HB1⟩
      · by_cases h0 : p.2 = 0
        · have d0 : (p.2 == 0) = true := by simp [h0]
          have H0 := hideP h0
          clear h0
          have HV := hideP (show valB p.2 = true by rw [H0.out]; rfl)
          go_wp2_with fail
          go_ret
          exact ⟨ret_int (by rw [HC.out, chk_zero hlt HP.out hkb HV.out H0.out]), HB1⟩
        · have d0 : (p.2 == 0) = false := by simp [h0]
          have H0 := hideP h0
          clear h0
          go_wp2_with fail
          refine (rvalue_any _ _).mono ?_
          rintro e w' ⟨rfl, rfl⟩
          cases hvb : valB p.2
          · go_wp2_with fail
            go_ret
            exact ⟨ret_int (by rw [HC.out, chk_val hlt HP.out hkb hvb]), HB1⟩
          · cases hle : leB p.1 bf
            · have HL := hideP hle
              have d1 : Op.bytesLess p.1.toList bf.toList = false := by simp [leB] at hle; exact hle.1
              have d2 : (p.1.toList == bf.toList) = false := by simp [leB] at hle; simpa using hle.2
              clear hle
              go_wp2_with fail
              go_roundw
              case rel => exact ⟨k + 1, p.1, by omega, by go_num, rfl, by rw [HC.out, chk_next hlt HP.out hkb hvb H0.out HL.out], HB1⟩
              case measure => simp [intOf]; omega
            · have HL := hideP hle
              have d1 : (Op.bytesLess p.1.toList bf.toList || p.1.toList == bf.toList) = true := by simpa [leB] using hle
              clear hle
              go_wp2_with fail
              go_ret
              exact ⟨ret_int (by rw [HC.out, chk_ord hlt HP.out hkb hvb H0.out HL.out]), HB1⟩
    · go_wp2
      go_ret
      exact ⟨ret_int (by rw [HC.out, List.drop_of_length_le (by omega)]; rfl), hb⟩

/-- pairs that can be read: their keys and values are Go's -/
def Rd (l : List Pr) : Prop := ∀ p ∈ l, p.1.size ≤ maxLen ∧ (Lit.int .i64 p.2).wf = true
theorem Ok.rd {l : List Pr} (h : Ok l) : Rd l := fun p hp => by
  have h1 := h.key p hp
  have h2 := h.val p hp
  simp [keyB] at h1
  simp [valB] at h2
  exact ⟨by unfold maxLen; omega, WalkArith.wf_i64 (by omega)⟩
/-- the last value of a key -/
def lastV (l : List Pr) (k : ByteArray) : Int := l.foldl (fun v p => if cmpB p.1 k = 0 then p.2 else v) 0
theorem lastV_snoc (l : List Pr) (p : Pr) (k : ByteArray) : lastV (l ++ [p]) k = if cmpB p.1 k = 0 then p.2 else lastV l k := by simp [lastV, List.foldl_append]
theorem lastV_eq {l : List Pr} (h : l.Pairwise (fun p q => ltB p.1 q.1 = true)) (k : ByteArray) : lastV l k = valOf l k := by
  have hgo : ∀ (l : List Pr) (v : Int), l.Pairwise (fun p q => ltB p.1 q.1 = true) → l.foldl (fun v p => if cmpB p.1 k = 0 then p.2 else v) v = if (∃ p ∈ l, p.1 = k) then valOf l k else v := by
    intro l
    induction l with
    | nil => intro v _; simp
    | cons p r ih =>
      intro v h
      have h' := List.pairwise_cons.1 h
      rw [List.foldl_cons, ih _ h'.2]
      by_cases e : p.1 = k
      · have hc : cmpB p.1 k = 0 := cmpB_zero.2 e
        have hn : ¬ ∃ q ∈ r, q.1 = k := fun ⟨q, hq, e2⟩ => ltB_ne (h'.1 q hq) (by rw [e, e2])
        rw [if_neg hn, if_pos hc, if_pos ⟨p, by simp, e⟩]
        simp [valOf, hc]
      · have hc : cmpB p.1 k ≠ 0 := fun h => e (cmpB_zero.1 h)
        rw [if_neg hc]
        by_cases hr : ∃ q ∈ r, q.1 = k
        · obtain ⟨q, hq, e2⟩ := hr
          rw [if_pos ⟨q, hq, e2⟩, if_pos ⟨q, by simp [hq], e2⟩]
          simp [valOf, hc]
        · rw [if_neg hr, if_neg (fun ⟨q, hq, e2⟩ => by rcases List.mem_cons.1 hq with rfl | hq; exact e e2; exact hr ⟨q, hq, e2⟩)]
  unfold lastV
  rw [hgo l 0 h]
  by_cases hr : ∃ p ∈ l, p.1 = k
  · rw [if_pos hr]
  · rw [if_neg hr, valOf_none fun p hp e => hr ⟨p, hp, e⟩]

/-- a new map is handed back -/
def RetMap (w : World) (f : ByteArray → Int) (n : Nat) (e : Ending) (w' : World) : Prop :=
  ∃ b D, e = .returned (.map (some b)) ∧ w'.ownsMap Tryz.prog 9 (plainElem Tryz.prog 3) b n D ∧ IsMap D ∧ (∀ k, mv D k = f k) ∧ w.heap.size ≤ b ∧ Below w.heap.size w w'

set_option maxHeartbeats 1000000 in
set_option maxRecDepth 100000 in
theorem of_any (A : Option Addr) (c : Nat) (l : List Pr) (w : World) (hA : PS w w.heap.size A l) (hl : l.length < 4611686018427387904) (hr : Rd l) :
    Calls Tryz.prog 8 #[.slice A l.length c] w (RetMap w (lastV l) l.length) := by
  have hmm := @run_makeMap Tryz.prog
  go_enter Tryz.func8, Tryz.ntmps8
  go_wp2_with fail
  go_loopw [9] (fun i wr => ∃ (k : Nat) (D : DataW Unit), k ≤ l.length ∧ i = .int .i64 k ∧ wr.ownsMap Tryz.prog 9 (plainElem Tryz.prog 3) w.heap.size k D ∧ IsMap D ∧ (∀ j, mv D j = lastV (l.take k) j) ∧ Below w.heap.size w wr) (fun i _ => l.length - (intOf i).toNat)
  case atStart => exact ⟨0, .map [], Nat.zero_le _, rfl, World.ownsMap_made _ _ _ _, isMap_empty, (fun j => mv_empty j), (Below.refl _ _).alloc (Nat.le_refl _) _⟩
  case round =>
    obtain ⟨k, D, hk, rfl, hown, hM, hD, hb⟩ := hrel
    have HD := hideP hD
    clear hD
    by_cases hlt : k < l.length
    · obtain ⟨b, o, rfl, hbl, c1, c2⟩ := hA.below hb k _ (List.getElem?_eq_getElem hlt)
      obtain ⟨r1, r2⟩ := hr _ (List.getElem_mem hlt)
      have HT := hideP (show l.take (k + 1) = l.take k ++ [l[k]] from List.take_succ_eq_append_getElem hlt)
      clear hA hr
      generalize l[k] = p at c1 c2 r1 r2 HT
      have hsz := hb.size
      have HB := (hb.alloc hb.size (.cells #[.string p.1, .int .i64 p.2] 55))
      have hown2 := hown.alloc (.cells #[.string p.1, .int .i64 p.2] 55)
      have R2 := hideP r2
      clear r2
      go_wp2_with (first
        | (at_mapUpdate; refine wpList_mapUpdate_own _ rfl _ _ _ 38 rfl 9 3 law9 Tryz.underlying38 _ w.heap.size k _ rfl hown2 (by unfold maxLen; omega) _ _ _ rfl rfl (keyOf_string_mk Tryz.underlying9 r1) _ [] (plainElem_int Tryz.underlying3 R2.out) ?_; intro w3 hown3 hg3; go_frame)
        | go_in)
      go_roundw
      case rel =>
        refine ⟨k + 1, _, by omega, by go_num, hown3, hM.put _ _, fun j => ?_, HB.grown hg3 HB.size (fun j hj => by cases hj; exact Nat.le_refl _)⟩
        rw [HT.out, lastV_snoc]
        by_cases e : p.1 = j
        · rw [if_pos (cmpB_zero.2 e), ← e]; exact mv_put_same hM p.1 p.2
        · rw [if_neg (fun h => e (cmpB_zero.1 h)), ← HD.out]; exact mv_put_other (fun h => e h.symm) p.2
      case measure => simp [intOf]; omega
    · have hkl : k = l.length := by omega
      subst hkl
      have hf : RetMap w (lastV l) l.length (.returned (.map (some w.heap.size))) wr := ⟨w.heap.size, D, rfl, hown, hM, fun j => by rw [HD.out, List.take_length], Nat.le_refl _, hb⟩
      have HF := hideP hf
      clear hf
      go_wp2_with fail
      go_ret
      exact HF.out
theorem zero3 (w : World) : (zeroValue 3).run Tryz.prog w = .ok (.int .i64 0) w := by kernel_rfl
theorem look_any {w : World} {b n : Nat} {D : DataW Unit} (hown : w.ownsMap Tryz.prog 9 (plainElem Tryz.prog 3) b n D) (x : ByteArray) (hx : x.size ≤ maxLen) :
    (Instr.lookup 38 (.map (some b)) (.string x) false).run Tryz.prog w = .ok (.int .i64 (mv D x)) w := by
  obtain ⟨c, hrun, hat, _⟩ := hown.lookup_int law9 Tryz.underlying38 Tryz.underlying3 (zero3 w) (keyOf_string_mk Tryz.underlying9 hx)
  have : mv D x = c := by unfold mv; rw [show kl x = .string x.data.toList from rfl, hat]
  rw [this]; exact hrun
end Go.Proofs.YtpefdonhacmaoaaGreatDoor

set_option linter.unusedVariables false
set_option linter.unusedSimpArgs false
namespace Go.Proofs.YtpefdonhacmaoaaGreatDoor
open Go.RowKit Go.WideMaps Go.Maps

/-- a map of values of the call's own -/
structure MV (w : World) (b n : Nat) (f : VF) : Prop where
  ex : ∃ D : DataW Unit, w.ownsMap Tryz.prog 9 (plainElem Tryz.prog 3) b n D ∧ IsMap D ∧ ∀ k, mv D k = f k
section
variable {w w' : World} {b n : Nat} {f : VF}
theorem MV.kept (h : MV w b n f) {row : Option Nat} (hg : w.grownBy w' row) (hne : some b ≠ row) : MV w' b n f := by
  obtain ⟨D, h1, h2, h3⟩ := h.ex; exact ⟨D, h1.kept hg hne, h2, h3⟩
theorem MV.below (h : MV w b n f) (hb : Below w.heap.size w w') : MV w' b n f := h.kept (row := none) ⟨hb.os, hb.tape, hb.output, hb.size, fun k hk _ => hb.block k hk⟩ (by simp)
theorem MV.lt (h : MV w b n f) : b < w.heap.size := by obtain ⟨D, h1, _⟩ := h.ex; exact h1.lt
theorem MV.mono (h : MV w b n f) {m : Nat} (hm : n ≤ m) : MV w b m f := by obtain ⟨D, h1, h2⟩ := h.ex; exact ⟨D, h1.mono hm, h2⟩
theorem MV.look (h : MV w b n f) (x : ByteArray) (hx : x.size ≤ maxLen) : (Instr.lookup 38 (.map (some b)) (.string x) false).run Tryz.prog w = .ok (.int .i64 (f x)) w := by
  obtain ⟨D, h1, _, h3⟩ := h.ex; rw [← h3]; exact look_any h1 x hx
set_option maxRecDepth 100000 in
theorem MV.put (h : MV w b n f) (hn : n ≤ 1000000000) (x : ByteArray) (hx : x.size ≤ maxLen) (c : Int) (hc : (Lit.int .i64 c).wf = true) :
    ∃ w', (Instr.mapUpdate 38 (.map (some b)) (.string x) (.int .i64 c)).run Tryz.prog w = .ok () w' ∧ MV w' b (n + 1) (upd f x c) ∧ w.grownBy w' (some b) := by
  obtain ⟨D, h1, h2, h3⟩ := h.ex
  obtain ⟨w', hrun, hown, hg⟩ := h1.update law9 Tryz.underlying38 (by unfold maxLen; omega) (keyOf_string_mk Tryz.underlying9 hx) (plainElem_int Tryz.underlying3 hc)
  refine ⟨w', hrun, ⟨_, hown, h2.put _ _, fun k => ?_⟩, hg⟩
  by_cases e : k = x
  · subst e; rw [upd_same]; exact mv_put_same h2 k c
  · rw [upd_other _ _ e, ← h3]; exact mv_put_other e c
end
theorem wf_of {c : Int} (h : valB c = true) : (Lit.int .i64 c).wf = true := WalkArith.wf_i64 (by have := valB_iff.1 h; omega)
/-- the list of a map with the values of a valid store is that store -/
theorem lists_eq {D : DataW Unit} {l m : List Pr} (hL : Lists D l) (hm : Ok m) (h : ∀ k, mv D k = valOf m k) : l = m := by
  have hin : ∀ p ∈ l, ∃ q ∈ m, q.1 = p.1 ∧ q.2 = p.2 := fun p hp => by
    have h1 : valOf m p.1 = p.2 := by rw [← h, ← hL.val, valOf_mem hL.srt hp]
    obtain ⟨q, hq, e⟩ := valOf_ne (l := m) (k := p.1) (by rw [h1]; exact hL.nz p hp)
    exact ⟨q, hq, e, by rw [← h1, ← e, valOf_mem hm.srt hq]⟩
  have hl : Ok l := ⟨hL.srt, fun p hp => by obtain ⟨q, hq, e, _⟩ := hin p hp; rw [← e]; exact hm.key q hq, fun p hp => by obtain ⟨q, hq, _, e⟩ := hin p hp; rw [← e]; exact hm.val q hq, hL.nz⟩
  exact hl.ext hm fun k => by rw [hL.val, h]
/-- Of and List, in these words -/
theorem of_mv (A : Option Addr) (c : Nat) (l : List Pr) (w : World) (hA : SV w A c l) (h : Ok l) : Calls Tryz.prog 8 #[.slice A l.length c] w fun e w' => ∃ b, e = .returned (.map (some b)) ∧ MV w' b l.length (valOf l) ∧ Below w.heap.size w w' := by
  refine (of_any A c l w hA.ps (by have := h.small; omega) h.rd).mono ?_
  rintro e w' ⟨b, D, rfl, hown, hIM, hmv, _, hb⟩
  exact ⟨b, rfl, ⟨D, hown, hIM, fun k => by rw [hmv, lastV_eq h.srt]⟩, hb⟩
theorem list_mv (b n : Nat) (f : VF) (m : List Pr) (w : World) (hM : MV w b n f) (hn : n ≤ 1000000000) (hm : Ok m) (hv : valOf m = f) : Calls Tryz.prog 16 #[.map (some b)] w fun e w' => ∃ A c, e = .returned (.slice A m.length c) ∧ SV w' A c m ∧ Below w.heap.size w w' := by
  obtain ⟨D, hown, hIM, hmv⟩ := hM.ex
  have := hown.size_le
  refine (list_any b n D w hown (by omega)).mono ?_
  rintro e w' ⟨A, c, l, rfl, hsv, hli, _, hb⟩
  obtain rfl := lists_eq hli hm (fun k => by rw [hmv, hv])
  exact ⟨A, c, rfl, hsv, hb⟩
end Go.Proofs.YtpefdonhacmaoaaGreatDoor

set_option linter.unusedVariables false
set_option linter.unusedSimpArgs false
namespace Go.Proofs.YtpefdonhacmaoaaGreatDoor
open Go.RowKit Go.WideMaps Go.Maps

structure BB where
  b : Bool
/-- is a key in the set? -/
def bv (D : DataW Unit) (k : ByteArray) : Bool := match D.atKey (kl k) (.lit (.bool false)) with
  | .lit (.bool c) => c
  | _ => false
theorem bv_none {D : DataW Unit} {k : ByteArray} (h : Maps.has D (kl k) = false) : bv D k = false := by unfold bv; rw [atKey_of_not_has h]
theorem bv_put_same {D : DataW Unit} (hD : IsMap D) (k : ByteArray) (c : Bool) : bv (D.put (kl k) (.lit (.bool c))) k = c := by unfold bv; rw [atKey_put_same hD (k := kl k) (show WideAt.IsKeyLit (kl k) from trivial)]
theorem bv_put_other {D : DataW Unit} {k j : ByteArray} (h : j ≠ k) (c : Bool) : bv (D.put (kl k) (.lit (.bool c))) j = bv D j := by
  unfold bv; rw [atKey_put_other (fun e => h (kl_inj e))]
theorem bv_empty (k : ByteArray) : bv (.map []) k = false := rfl
/-- a set of keys, as a map whose values are all true -/
structure KSet (D : DataW Unit) (ks : List ByteArray) : Prop where
  map : IsMap D
  has : ∀ k : ByteArray, Maps.has D (kl k) = true ↔ k ∈ ks
  val : ∀ k, bv D k = inB k ks
theorem KSet.empty : KSet (.map []) [] := ⟨isMap_empty, fun k => by simp [Maps.has], fun k => rfl⟩
theorem zeroB (w : World) : (zeroValue 4).run Tryz.prog w = .ok (.bool false) w := by kernel_rfl
theorem plainElem_bool_inv {P : Program} {t : TypeId} (he : P.underlying t = some .bool) {v : Value} {z : DataW Unit × List MemPlace} (h : plainElem P t v = some z) : ∃ a, v = .bool a ∧ z = (.lit (.bool a), []) := by
  unfold plainElem at h
  rw [he] at h
  cases v <;> simp at h
  subst h
  exact ⟨_, rfl, rfl⟩
set_option maxRecDepth 100000 in
theorem blook_any {w : World} {b n : Nat} {D : DataW Unit} (hown : w.ownsMap Tryz.prog 9 (plainElem Tryz.prog 4) b n D) (x : ByteArray) (hx : x.size ≤ maxLen) :
    (Instr.lookup 59 (.map (some b)) (.string x) false).run Tryz.prog w = .ok (.bool (bv D x)) w := by
  obtain ⟨v, ps, hrun, hv⟩ := hown.lookup law9 Tryz.underlying59 (zeroB w) (plainElem_bool Tryz.underlying4 false) (keyOf_string_mk Tryz.underlying9 hx)
  obtain ⟨c, rfl, hc⟩ := plainElem_bool_inv Tryz.underlying4 hv
  simp only [Prod.mk.injEq] at hc
  have : bv D x = c := by unfold bv; rw [show kl x = .string x.data.toList from rfl, hc.1]
  rw [this]; exact hrun
theorem KSet.put {D : DataW Unit} {ks : List ByteArray} (h : KSet D ks) (k : ByteArray) : KSet (D.put (kl k) (.lit (.bool true))) (ks ++ [k]) := by
  refine ⟨h.map.put _ _, fun j => ?_, fun j => ?_⟩
  · by_cases e : j = k
    · subst e; rw [has_put_same h.map (show WideAt.IsKeyLit (kl j) from trivial)]; simp
    · rw [has_put_other (fun e2 => e (kl_inj e2)), h.has, List.mem_append]
      exact ⟨.inl, fun h => h.elim id (fun h => absurd (by simpa using h) e)⟩
  · by_cases e : j = k
    · subst e; rw [bv_put_same h.map, inB_iff.2 (by simp)]
    · rw [bv_put_other e, h.val, Bool.eq_iff_iff, inB_iff, inB_iff, List.mem_append]
      exact ⟨.inl, fun h => h.elim id (fun h => absurd (by simpa using h) e)⟩
theorem KSet.congr {D : DataW Unit} {ks js : List ByteArray} (h : KSet D ks) (hk : ∀ k, k ∈ ks ↔ k ∈ js) : KSet D js :=
  ⟨h.map, fun k => (h.has k).trans (hk k), fun k => by rw [h.val, Bool.eq_iff_iff, inB_iff, inB_iff]; exact hk k⟩
/-- two sets of the call's own -/
structure Sets (w : World) (B b1 b2 n : Nat) (D1 D2 : DataW Unit) (ks js : List ByteArray) : Prop where
  m1 : w.ownsMap Tryz.prog 9 (plainElem Tryz.prog 4) b1 n D1
  m2 : w.ownsMap Tryz.prog 9 (plainElem Tryz.prog 4) b2 n D2
  k1 : KSet D1 ks
  k2 : KSet D2 js
  ne : b1 ≠ b2
  l1 : B ≤ b1
  l2 : B ≤ b2
section
variable {w w' : World} {B b1 b2 n : Nat} {D1 D2 : DataW Unit} {ks js : List ByteArray}
theorem Sets.symm (h : Sets w B b1 b2 n D1 D2 ks js) : Sets w B b2 b1 n D2 D1 js ks := ⟨h.m2, h.m1, h.k2, h.k1, fun e => h.ne e.symm, h.l2, h.l1⟩
theorem Sets.below (h : Sets w B b1 b2 n D1 D2 ks js) (hb : Below w.heap.size w w') : Sets w' B b1 b2 n D1 D2 ks js :=
  ⟨h.m1.kept (row := none) ⟨hb.os, hb.tape, hb.output, hb.size, fun k hk _ => hb.block k hk⟩ (by simp), h.m2.kept (row := none) ⟨hb.os, hb.tape, hb.output, hb.size, fun k hk _ => hb.block k hk⟩ (by simp), h.k1, h.k2, h.ne, h.l1, h.l2⟩
set_option maxRecDepth 100000 in
theorem Sets.put (h : Sets w B b1 b2 n D1 D2 ks js) (hn : n ≤ 1000000) (x : ByteArray) (hx : x.size ≤ maxLen) :
    ∃ w', (Instr.mapUpdate 59 (.map (some b1)) (.string x) (.bool true)).run Tryz.prog w = .ok () w' ∧ Sets w' B b1 b2 (n + 1) (D1.put (kl x) (.lit (.bool true))) D2 (ks ++ [x]) js ∧ w.grownBy w' (some b1) := by
  obtain ⟨w', hrun, hown, hg⟩ := h.m1.update law9 Tryz.underlying59 (by unfold maxLen; omega) (keyOf_string_mk Tryz.underlying9 hx) (plainElem_bool Tryz.underlying4 true)
  exact ⟨w', hrun, ⟨hown, (h.m2.mono (Nat.le_succ n)).kept hg (fun e => h.ne (by injection e with e; exact e.symm)), h.k1.put x, h.k2, h.ne, h.l1, h.l2⟩, hg⟩
end
end Go.Proofs.YtpefdonhacmaoaaGreatDoor
