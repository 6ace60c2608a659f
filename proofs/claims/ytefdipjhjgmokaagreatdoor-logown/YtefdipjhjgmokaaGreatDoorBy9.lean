/-
  A partitioned store in memory (no body of the program in it).
  store.Check: what it answers.
  store.find: what it answers.
  A pair in a slice of one.
  slices.Grow of nil, and slices.Concat, at pairs.
-/
import Derived.Test.YtefdipjhjgmokaaGreatDoorBy2
import Derived.Test.YtefdipjhjgmokaaGreatDoorBy7
import Derived.Test.YtefdipjhjgmokaaGreatDoorBy8
import Derived.Test.YtefdipjhjgmokaaGreatDoorBy5
import Derived.Test.YtefdipjhjgmokaaGreatDoorBy1
import Derived.WalkKit
import Derived.WalkSpells
import Derived.WalkLawsBesides
set_option linter.unusedVariables false
set_option linter.unusedSimpArgs false
namespace Go.Proofs.YtefdipjhjgmokaaGreatDoor
open Go.RowKit

/-- four slices of pairs: where they lie, and their capacities -/
structure Dv where
  A : Nat → Option Addr
  c : Nat → Nat
/-- the slice of an owner -/
def Dv.s (q : Dv) (cs : List ByteArray) (os : List Int) (l : List Pr) (k : Nat) : Value := .slice (q.A k) (ptL cs os (k : Int) l).length (q.c k)
def Dv.ar (q : Dv) (cs : List ByteArray) (os : List Int) (l : List Pr) : Array Value := #[q.s cs os l 0, q.s cs os l 1, q.s cs os l 2, q.s cs os l 3]
/-- while they are made: those of the first owners -/
def Dv.u (q : Dv) (cs : List ByteArray) (os : List Int) (l : List Pr) (k j : Nat) : Value := if j < k then q.s cs os l j else .slice none 0 0
def Dv.up (q : Dv) (cs : List ByteArray) (os : List Int) (l : List Pr) (k : Nat) : Array Value := #[q.u cs os l k 0, q.u cs os l k 1, q.u cs os l k 2, q.u cs os l k 3]
def Dv.put (q : Dv) (k : Nat) (A : Option Addr) (c : Nat) : Dv := ⟨fun j => if j = k then A else q.A j, fun j => if j = k then c else q.c j⟩
def noD : Dv := ⟨fun _ => none, fun _ => 0⟩
section
variable {q : Dv} {cs : List ByteArray} {os : List Int} {l : List Pr} {k : Nat}
theorem Dv.up_zero (q : Dv) (cs : List ByteArray) (os : List Int) (l : List Pr) : q.up cs os l 0 = #[.slice none 0 0, .slice none 0 0, .slice none 0 0, .slice none 0 0] := rfl
theorem Dv.up_four (q : Dv) (cs : List ByteArray) (os : List Int) (l : List Pr) : q.up cs os l 4 = q.ar cs os l := rfl
theorem lt4 {k : Nat} (h : k < 4) : k = 0 ∨ k = 1 ∨ k = 2 ∨ k = 3 := by omega
theorem Dv.up_put (hk : k < 4) (A : Option Addr) (c : Nat) : (q.up cs os l k).setIfInBounds k (.slice A (ptL cs os (k : Int) l).length c) = (q.put k A c).up cs os l (k + 1) := by
  rcases lt4 hk with rfl | rfl | rfl | rfl <;> simp [Dv.up, Dv.u, Dv.put, Dv.s]
theorem Dv.up_at (hk : k < 4) {j : Nat} (hj : j < 4) : (q.up cs os l k)[j]? = some (q.u cs os l k j) := by
  rcases lt4 hj with rfl | rfl | rfl | rfl <;> rfl
theorem Dv.ar_at {j : Nat} (hj : j < 4) : (q.ar cs os l)[j]? = some (q.s cs os l j) := by
  rcases lt4 hj with rfl | rfl | rfl | rfl <;> rfl
end
/-- the slices of the first owners are a call's own -/
def Dv.Own (q : Dv) (w : World) (B : Nat) (cs : List ByteArray) (os : List Int) (l : List Pr) (k : Nat) : Prop := ∀ j, j < k → OV w B (q.A j) (q.c j) (ptL cs os (j : Int) l)
section
variable {q : Dv} {w w' : World} {B B' k : Nat} {cs : List ByteArray} {os : List Int} {l : List Pr}
theorem Dv.Own.below (h : q.Own w B cs os l k) (hb : Below w.heap.size w w') : q.Own w' B cs os l k := fun j hj => (h j hj).below hb
theorem Dv.Own.mono (h : q.Own w B cs os l k) (hB : B' ≤ B) : q.Own w B' cs os l k := fun j hj => (h j hj).mono hB
theorem Dv.Own.put (h : q.Own w B cs os l k) {A : Option Addr} {c : Nat} (hA : OV w B A c (ptL cs os (k : Int) l)) : (q.put k A c).Own w B cs os l (k + 1) := fun j hj => by
  by_cases e : j = k
  · subst e; simpa [Dv.put] using hA
  · simpa [Dv.put, e] using h j (by omega)
theorem OV.kept_ {A : Option Addr} {c g : Nat} {t : TypeId} (h : OV w B A c l) (ht : Ty w g t) (hne : 63 ≠ t) (hg : w.grownBy w' (some g)) : OV w' B A c l := World.ownsRow.kept h hg (own_ne h ht hne)
theorem Dv.Own.kept {g : Nat} {t : TypeId} (h : q.Own w B cs os l k) (ht : Ty w g t) (hne : 63 ≠ t) (hg : w.grownBy w' (some g)) : q.Own w' B cs os l k := fun j hj => (h j hj).kept_ ht hne hg
theorem OR.kept_ {A : Option Addr} {c g : Nat} {t u : TypeId} {xs : List Value} (h : OR w B u A c xs) (ht : Ty w g t) (hne : u ≠ t) (hg : w.grownBy w' (some g)) : OR w' B u A c xs := World.ownsRow.kept h hg (own_ne h ht hne)
theorem MO.kept {m : Mp} {g : Nat} {t : TypeId} (h : MO w B m) (ht : Ty w g t) (h1 : 9 ≠ t) (h2 : 3 ≠ t) (hg : w.grownBy w' (some g)) : MO w' B m := ⟨h.cuts.kept_ ht h1 hg, h.own.kept_ ht h2 hg⟩
theorem Below.kept {w0 : World} {g : Nat} (h : Below w0.heap.size w0 w) (hl : w0.heap.size ≤ g) (hg : w.grownBy w' (some g)) : Below w0.heap.size w0 w' := h.grown hg h.size (fun b hb => by injection hb with hb; subst hb; exact hl)
theorem Box.kept {g g' : Nat} {t : TypeId} {xs : Array Value} (h : Box w g t xs) (hne : g ≠ g') (hg : w.grownBy w' (some g')) : Box w' g t xs := h.grown hg (fun e => hne (by injection e))
end
theorem grown_refl (w : World) (r : Option Nat) : w.grownBy w r := ⟨rfl, rfl, rfl, Nat.le_refl _, fun _ _ _ => rfl⟩
theorem grown_trans {a b c : World} {r : Option Nat} (h : a.grownBy b r) (k : b.grownBy c r) : a.grownBy c r :=
  ⟨k.os.trans h.os, k.tape.trans h.tape, k.output.trans h.output, Nat.le_trans h.size k.size, fun i hi hne => (k.block i (Nat.lt_of_lt_of_le hi h.size) hne).trans (h.block i hi hne)⟩
theorem grown_below {w w' : World} (hb : Below w.heap.size w w') (r : Option Nat) : w.grownBy w' r := ⟨hb.os, hb.tape, hb.output, hb.size, fun k hk _ => hb.block k hk⟩
/-- a partitioned store: its map, its parts; all in blocks from B on -/
structure PB (w : World) (B g : Nat) (m : Mp) (l : List Pr) (q : Dv) : Prop where
  box : Box w g 197 #[.slice m.A m.cs.length m.ca, .slice m.O m.os.length m.co, q.s m.cs m.os l 0, q.s m.cs m.os l 1, q.s m.cs m.os l 2, q.s m.cs m.os l 3]
  mo : MO w B m
  own : q.Own w B m.cs m.os l 4
  okm : OkM m.cs m.os
  ok : Ok l
  low : B ≤ g
section
variable {w w' : World} {B B' g : Nat} {m n : Mp} {l l' : List Pr} {q q' : Dv}
theorem PB.below (h : PB w B g m l q) (hb : Below w.heap.size w w') : PB w' B g m l q := ⟨h.box.below hb, h.mo.below hb, h.own.below hb, h.okm, h.ok, h.low⟩
theorem PB.mono (h : PB w B g m l q) (hB : B' ≤ B) : PB w B' g m l q := ⟨h.box, h.mo.mono hB, h.own.mono hB, h.okm, h.ok, Nat.le_trans hB h.low⟩
/-- another one's box changes -/
theorem PB.kept {g' : Nat} {t : TypeId} (h : PB w B g m l q) (hne : g ≠ g') (ht : Ty w g' t) (h1 : 9 ≠ t) (h2 : 3 ≠ t) (h3 : 63 ≠ t) (hg : w.grownBy w' (some g')) : PB w' B g m l q :=
  ⟨h.box.kept hne hg, h.mo.kept ht h1 h2 hg, h.own.kept ht h3 hg, h.okm, h.ok, h.low⟩
theorem ty_ne {a b : Nat} {t u : TypeId} (h : Ty w a t) (k : Ty w b u) (hne : t ≠ u) : a ≠ b := fun e => by subst e; exact hne (h.inj k)
theorem PB.c0 (h : PB w B g m l q) : w.cell? ⟨g, 0, none⟩ = some (.slice m.A m.cs.length m.ca) := h.box.cell 0 rfl
theorem PB.c1 (h : PB w B g m l q) : w.cell? ⟨g, 1, none⟩ = some (.slice m.O m.os.length m.co) := h.box.cell 1 rfl
theorem PB.p (h : PB w B g m l q) {k : Nat} (hk : k < 4) : w.cell? ⟨g, 2 + k, none⟩ = some (q.s m.cs m.os l k) := by
  rcases lt4 hk with rfl | rfl | rfl | rfl
  · exact h.box.cell 2 rfl
  · exact h.box.cell 3 rfl
  · exact h.box.cell 4 rfl
  · exact h.box.cell 5 rfl
end
/-- a box's first cells are written, one by one -/
theorem grown_box {w : World} {g : Nat} (xs : List (Nat × Value)) : w.grownBy (xs.foldl (fun w x => w.setCell ⟨g, x.1, none⟩ x.2) w) (some g) := by
  induction xs generalizing w with
  | nil => exact grown_refl _ _
  | cons x r ih => exact grown_trans (grown_set w g x.1 x.2) ih
end Go.Proofs.YtefdipjhjgmokaaGreatDoor

set_option linter.unusedVariables false
set_option linter.unusedSimpArgs false
namespace Go.Proofs.YtefdipjhjgmokaaGreatDoor
open Go.RowKit

set_option maxHeartbeats 400000 in
theorem check_any (A : Option Addr) (c : Nat) (l : List Pr) (w : World) (hA : PS w w.heap.size A l) (hl : l.length < 4611686018427387904) :
    Calls Tryz.prog 130 #[.slice A l.length c] w fun e w' => e = .returned (.int .i64 (chk ByteArray.empty l)) ∧ Below w.heap.size w w' := by
  go_enter Tryz.func130, Tryz.ntmps130
  go_wp2
  go_loopw [3, 8] (fun s i wr => ∃ (k : Nat) (bf : ByteArray), k ≤ l.length ∧ i = .int .i64 k ∧ s = .string bf ∧ chk ByteArray.empty l = chk bf (l.drop k) ∧ Below w.heap.size w wr) (fun _ i _ => l.length - (intOf i).toNat)
  case atStart => exact ⟨0, ByteArray.empty, Nat.zero_le _, rfl, rfl, rfl, Below.refl _ _⟩
  case round =>
    obtain ⟨k, bf, hk, rfl, rfl, hchk, hb⟩ := hrel
    have HC := hideP hchk
    clear hchk
    by_cases hlt : k < l.length
    · obtain ⟨b, o, rfl, hbl, c1, c2⟩ := hA.below hb k _ (List.getElem?_eq_getElem hlt)
      clear hA
      generalize hp : l[k] = p at c1 c2
      have HP := hideP hp
      clear hp
      have hsz := hb.size
      have HB := (hb.alloc hb.size (.cells #[.string p.1, .int .i64 p.2] 63))
      cases hkb : keyB p.1
      · go_wp2_with fail
        refine (key_any _ _).mono ?_
        rintro e w' ⟨rfl, rfl⟩
        go_wp2_with fail
        go_ret
        exact ⟨ret_int (by rw [HC.out, chk_key hlt HP.out hkb]), HB⟩
      · cases hvb : valB p.2
        · go_wp2_with fail
          refine (key_any _ _).mono ?_
          rintro e w' ⟨rfl, rfl⟩
          go_wp2_with fail
          refine (value_any _ _).mono ?_
          rintro e w' ⟨rfl, rfl⟩
          go_wp2_with fail
          go_ret
          exact ⟨ret_int (by rw [HC.out, chk_val hlt HP.out hkb hvb]), HB⟩
        · by_cases h0 : p.2 = 0
          · have d0 : (p.2 == 0) = true := by simp [h0]
            have H0 := hideP h0
            clear h0
            go_wp2_with fail
            refine (key_any _ _).mono ?_
            rintro e w' ⟨rfl, rfl⟩
            go_wp2_with fail
            refine (value_any _ _).mono ?_
            rintro e w' ⟨rfl, rfl⟩
            go_wp2_with fail
            go_ret
            exact ⟨ret_int (by rw [HC.out, chk_zero hlt HP.out hkb hvb H0.out]), HB⟩
          · have d0 : (p.2 == 0) = false := by simp [h0]
            have H0 := hideP h0
            clear h0
            cases hle : leB p.1 bf
            · have HL := hideP hle
              have d1 : Op.bytesLess p.1.toList bf.toList = false := by simp [leB] at hle; exact hle.1
              have d2 : (p.1.toList == bf.toList) = false := by simp [leB] at hle; simpa using hle.2
              clear hle
              go_wp2_with fail
              refine (key_any _ _).mono ?_
              rintro e w' ⟨rfl, rfl⟩
              go_wp2_with fail
              refine (value_any _ _).mono ?_
              rintro e w' ⟨rfl, rfl⟩
              go_wp2_with fail
              go_roundw
              case rel => exact ⟨k + 1, p.1, by omega, by go_num, rfl, by rw [HC.out, chk_next hlt HP.out hkb hvb H0.out HL.out], HB⟩
              case measure => simp [intOf]; omega
            · have HL := hideP hle
              have d1 : (Op.bytesLess p.1.toList bf.toList || p.1.toList == bf.toList) = true := by simpa [leB] using hle
              clear hle
              go_wp2_with fail
              refine (key_any _ _).mono ?_
              rintro e w' ⟨rfl, rfl⟩
              go_wp2_with fail
              refine (value_any _ _).mono ?_
              rintro e w' ⟨rfl, rfl⟩
              go_wp2_with fail
              go_ret
              exact ⟨ret_int (by rw [HC.out, chk_ord hlt HP.out hkb hvb H0.out HL.out]), HB⟩
    · go_wp2
      go_ret
      exact ⟨ret_int (by rw [HC.out, List.drop_of_length_le (by omega)]; rfl), hb⟩
end Go.Proofs.YtefdipjhjgmokaaGreatDoor

set_option linter.unusedVariables false
set_option linter.unusedSimpArgs false
namespace Go.Proofs.YtefdipjhjgmokaaGreatDoor
open Go.RowKit

set_option maxHeartbeats 400000 in
set_option maxRecDepth 100000 in
theorem compareString_any (a b : ByteArray) (w : World) :
    Calls Tryz.prog 224 #[.string a, .string b] w fun e w' => e = .returned (.int .i64 (cmpB a b)) ∧ w = w' := by
  go_enter Tryz.func224, Tryz.ntmps224
  go_wp2
  rw [run_callFunc_extern Tryz.func253 (by kernel_rfl) (by kernel_rfl) (by kernel_rfl) (e := Extern.BytealgCompare.compare) (by kernel_rfl), Lib.run_compareString]
  simp only [Result.andThen]
  rw [Oper.upon_value]
  go_wp2
  go_ret
  exact ⟨rfl, rfl⟩

set_option maxHeartbeats 400000 in
theorem compare_any (a b : ByteArray) (w : World) :
    Calls Tryz.prog 175 #[.string a, .string b] w fun e w' => e = .returned (.int .i64 (cmpB a b)) ∧ w = w' := by
  go_enter Tryz.func175, Tryz.ntmps175
  go_wp2_with fail
  refine (compareString_any _ _ _).mono ?_
  rintro e w' ⟨rfl, rfl⟩
  go_wp2_with fail
  go_ret
  exact ⟨rfl, rfl⟩

set_option maxHeartbeats 400000 in
theorem find1_any (a b : ByteArray) (n : Int) (w : World) :
    Calls Tryz.prog 174 #[.agg #[.string a, .int .i64 n], .string b] w fun e w' => e = .returned (.int .i64 (cmpB a b)) ∧ w.alloc (.cells #[.string a, .int .i64 n] 63) = w' := by
  go_enter Tryz.func174, Tryz.ntmps174
  go_wp2_with fail
  refine (compare_any _ _ _).mono ?_
  rintro e w' ⟨rfl, rfl⟩
  go_wp2_with fail
  go_ret
  exact ⟨rfl, rfl⟩

set_option maxHeartbeats 400000 in
set_option maxRecDepth 100000 in
theorem search_any (A : Option Addr) (c : Nat) (l : List Pr) (key : ByteArray) (q : Nat) (w : World) (hA : PS w w.heap.size A l) (hl : l.length < 4611686018427387904) (hq : At l key q) :
    Calls Tryz.prog 173 #[.slice A l.length c, .string key, .func (.func 174) #[] #[]] w fun e w' =>
      e = .returned (.tuple #[.int .i64 q, .bool (fnd l key q)]) ∧ Below w.heap.size w w' := by
  go_enter Tryz.func173, Tryz.ntmps173
  go_wp2
  go_loopw [9, 10] (fun i j wr => ∃ (a b : Nat), a ≤ q ∧ q ≤ b ∧ b ≤ l.length ∧ i = .int .i64 a ∧ j = .int .i64 b ∧ Below w.heap.size w wr) (fun i j _ => (intOf j - intOf i).toNat)
  case atStart => exact ⟨0, l.length, Nat.zero_le _, hq.le, Nat.le_refl _, rfl, rfl, Below.refl _ _⟩
  case round =>
    obtain ⟨a, b, h1, h2, h3, rfl, rfl, hb⟩ := hrel
    by_cases hlt : a < b
    · have hm : (a + b) / 2 < l.length := by omega
      obtain ⟨bl, o, rfl, hbl, c1, c2⟩ := hA.below hb ((a + b) / 2) _ (List.getElem?_eq_getElem hm)
      have HL := hideP (hq.lo ((a + b) / 2) hm)
      have HH := hideP (hq.hi ((a + b) / 2) hm)
      clear hA hq
      generalize l[(a + b) / 2] = p at c1 c2 HL HH
      have HB := (hb.alloc hb.size (.cells #[.string p.1, .int .i64 p.2] 63))
      have g1 : (0 : Int) ≤ ((a : Int) + (b : Int)) / 2 := by omega
      have g2 : ((a : Int) + (b : Int)) / 2 < (l.length : Int) := by omega
      cases hc : ltB p.1 key
      · have d : decide (cmpB p.1 key < 0) = false := by rw [decide_eq_false_iff_not, cmpB_neg, hc]; simp
        have hqm : q ≤ (a + b) / 2 := by
          rcases Nat.lt_or_ge ((a + b) / 2) q with h | h
          · rw [HL.out h] at hc; cases hc
          · exact h
        clear hc
        go_wp2_with fail
        refine (find1_any _ _ _ _).mono ?_
        rintro e w' ⟨rfl, rfl⟩
        go_wp2_with fail
        go_roundw
        case rel => exact ⟨a, (a + b) / 2, h1, hqm, by omega, rfl, by go_num, HB⟩
        case measure => simp [intOf]; omega
      · have d : decide (cmpB p.1 key < 0) = true := by rw [decide_eq_true_iff, cmpB_neg, hc]
        have hqm : (a + b) / 2 < q := by
          rcases Nat.lt_or_ge ((a + b) / 2) q with h | h
          · exact h
          · rw [HH.out h] at hc; cases hc
        clear hc
        go_wp2_with fail
        refine (find1_any _ _ _ _).mono ?_
        rintro e w' ⟨rfl, rfl⟩
        go_wp2_with fail
        go_roundw
        case rel => exact ⟨(a + b) / 2 + 1, b, by omega, h2, h3, by go_num, rfl, HB⟩
        case measure => simp [intOf]; omega
    · obtain rfl : a = q := by omega
      obtain rfl : a = b := by omega
      clear h1 h2 hlt
      by_cases hlt : a < l.length
      · obtain ⟨bl, o, rfl, hbl, c1, c2⟩ := hA.below hb a _ (List.getElem?_eq_getElem hlt)
        have HF := hideP (show fnd l key a = (cmpB (l[a]).1 key == 0) by simp [fnd, hlt])
        clear hA hq
        generalize l[a] = p at c1 c2 HF
        have HB := (hb.alloc hb.size (.cells #[.string p.1, .int .i64 p.2] 63))
        go_wp2_with fail
        refine (find1_any _ _ _ _).mono ?_
        rintro e w' ⟨rfl, rfl⟩
        go_wp2_with fail
        go_ret2
        exact ⟨ret_ib rfl HF.out.symm, HB⟩
      · have HF := hideP (show fnd l key a = false by simp [fnd, hlt])
        go_wp2_with fail
        go_ret2
        exact ⟨ret_ib rfl HF.out.symm, hb⟩

set_option maxHeartbeats 400000 in
theorem find_any (A : Option Addr) (c : Nat) (l : List Pr) (key : ByteArray) (q : Nat) (w : World) (hA : PS w w.heap.size A l) (hl : l.length < 4611686018427387904) (hq : At l key q) :
    Calls Tryz.prog 133 #[.slice A l.length c, .string key] w fun e w' => e = .returned (.tuple #[.int .i64 q, .bool (fnd l key q)]) ∧ Below w.heap.size w w' := by
  go_enter Tryz.func133, Tryz.ntmps133
  go_wp2_with fail
  refine (search_any A c l key q _ hA hl hq).mono ?_
  rintro e w' ⟨rfl, hb⟩
  go_wp2_with fail
  go_ret2
  exact ⟨rfl, hb⟩
end Go.Proofs.YtefdipjhjgmokaaGreatDoor

set_option linter.unusedVariables false
set_option linter.unusedSimpArgs false
namespace Go.Proofs.YtefdipjhjgmokaaGreatDoor
open Go.RowKit

theorem PS.one (w : World) (key : ByteArray) (n : Int) (t : TypeId) : PS (w.alloc (.cells #[.string key, .int .i64 n] t)) (w.alloc (.cells #[.string key, .int .i64 n] t)).heap.size (some ⟨w.heap.size, 0, none⟩) [(key, n)] := fun i p hp => by
  cases i with
  | zero => simp at hp; subst hp; exact ⟨w.heap.size, 0, rfl, by simp, by simp, by simp⟩
  | succ i => simp at hp
end Go.Proofs.YtefdipjhjgmokaaGreatDoor

set_option linter.unusedVariables false
set_option linter.unusedSimpArgs false
namespace Go.Proofs.YtefdipjhjgmokaaGreatDoor
open Go.RowKit

set_option maxHeartbeats 400000 in
set_option maxRecDepth 100000 in
theorem grow_any (n : Nat) (w : World) (hn : n * 24 ≤ 140737488355328) :
    Calls Tryz.prog 176 #[.slice none 0 0, .int .i64 n] w fun e w' => ∃ v, e = .returned v ∧ w'.ownsRow w.heap.size 63 2 v 0 [] ∧ Below w.heap.size w w' := by
  have h1 : ¬ ((n : Int) < 0) := by omega
  rcases Nat.eq_zero_or_pos n with h0 | h0
  · subst h0
    go_enter Tryz.func176, Tryz.ntmps176
    go_wp2
    go_ret
    exact ⟨_, rfl, World.ownsRow_nil w _ _ _, Below.refl _ _⟩
  · obtain ⟨i0, hi, hz0, hz1, hz2⟩ := info_parts pairInfo
    have hrz : ∀ ty, (Builtin.append_ #[36, 3] ty #[.slice none 0 0, .int .i64 n]).run Tryz.prog w = _ := fun ty =>
      Lib.run_append_grow_zeros w 36 3 ty 63 i0 _ .i64 .i64 Tryz.underlying36 Tryz.underlying3 hi hz0 none 0 0 [] (run_firstCells_none w.drew i0.size 0 0 0) n h0 (by omega) (by omega) (by omega) (by rw [hz2]; omega)
        (growslice_fits (by omega) (by rw [hz2]; omega))
    have hGn : 0 + n ≤ grownCap w (0 + n) 0 63 := grownCap_ge w _ _ _
    have hGm := grownCap_le_maxLen w (0 + n) 0 63 (by unfold maxLen; omega)
    generalize grownCap w (0 + n) 0 63 = G at hrz hGn hGm
    obtain ⟨cur, hcur, hcs⟩ : ∃ cur : Array Value, ((([] : List Value).toArray ++ Builtin.zeroCells (Value.agg #[.string ByteArray.empty, .int .i64 0]).cells n ++ Builtin.zeroCells (Value.agg #[.string ByteArray.empty, .int .i64 0]).cells (G - (0 + n)))) = cur ∧ cur.size = G * 2 := by
      refine ⟨_, rfl, ?_⟩
      simp only [Array.size_append, size_zeroCells]
      simp [Value.cells]
      omega
    rw [hcur] at hrz
    have hrz' := fun ty => hideP (hrz ty)
    clear hrz hcur
    have hb : Below w.heap.size w (w.drew.alloc (.cells cur 63)) := (Below.refl _ w).drew.alloc (Nat.le_refl _) _
    have hG : G ≤ 9223372036854775807 := by unfold maxLen at hGm; omega
    go_enter Tryz.func176, Tryz.ntmps176
    go_wp2_with (at_builtin; refine Lib.wpList_append_run _ rfl _ _ _ _ rfl _ _ rfl rfl _ _ (hrz' _).out ?_)
    go_ret
    exact ⟨_, rfl, ⟨rfl, .inr ⟨w.heap.size, G, cur, rfl, Nat.le_refl _, heap_alloc_new w.drew _, Nat.zero_le _, hGm, hcs, rfl⟩⟩, hb⟩
/-- a slice of pairs: where, its capacity, what it reads as -/
structure Sl where
  A : Option Addr
  c : Nat
  l : List Pr
def catL (ss : List Sl) : List Pr := ss.flatMap (·.l)
theorem catL_take (ss : List Sl) (k : Nat) (h : k < ss.length) : catL (ss.take (k + 1)) = catL (ss.take k) ++ (ss[k]).l := by
  unfold catL; rw [List.take_succ_eq_append_getElem h, List.flatMap_append]; simp
theorem catL_le (ss : List Sl) (k : Nat) : (catL (ss.take k)).length ≤ (catL ss).length := by
  have : catL ss = catL (ss.take k) ++ catL (ss.drop k) := by unfold catL; rw [← List.flatMap_append, List.take_append_drop]
  rw [this, List.length_append]; omega
/-- a new row that holds a list of pairs is handed back -/
def RetRow (w : World) (l : List Pr) (e : Ending) (w' : World) : Prop := ∃ v, e = .returned v ∧ w'.ownsRow w.heap.size 63 2 v l.length (cellsOf l) ∧ Below w.heap.size w w'
/-- the slices that a slice of slices holds -/
structure Sls (w : World) (g o : Nat) (ss : List Sl) : Prop where
  lt : g < w.heap.size
  cell : ∀ j s, ss[j]? = some s → w.cell? ⟨g, o + j, none⟩ = some (.slice s.A s.l.length s.c)
  ps : ∀ s ∈ ss, PS w w.heap.size s.A s.l

set_option maxHeartbeats 400000 in
set_option maxRecDepth 100000 in
theorem concat_any (g o c : Nat) (ss : List Sl) (w : World) (hS : Sls w g o ss) (hn : (catL ss).length * 24 ≤ 140737488355328) (hs : ss.length ≤ 1000) :
    Calls Tryz.prog 134 #[.slice (some ⟨g, o, none⟩) ss.length c] w (RetRow w (catL ss)) := by
  go_enter Tryz.func134, Tryz.ntmps134
  go_wp2_with fail
  go_loop [3, 11] (fun z i => ∃ k : Nat, k ≤ ss.length ∧ i = .int .i64 k ∧ z = .int .i64 ((catL (ss.take k)).length : Nat)) (fun _ i => ss.length - (intOf i).toNat)
  case atStart => exact ⟨0, Nat.zero_le _, rfl, rfl⟩
  case round =>
    obtain ⟨k, hk, rfl, rfl⟩ := hrel
    by_cases hlt : k < ss.length
    · have c1 := hS.cell k _ (List.getElem?_eq_getElem hlt)
      have h1 := catL_le ss (k + 1)
      have h2 := hideP (show (catL (ss.take (k + 1))).length = (catL (ss.take k)).length + (ss[k]).l.length by rw [catL_take ss k hlt, List.length_append])
      rw [catL_take ss k hlt, List.length_append] at h1
      generalize ss[k] = s at c1 h1 h2
      generalize (catL (ss.take k)).length = z at h1 h2 ⊢
      go_wp2_with fail
      go_round
      case rel => exact ⟨k + 1, by omega, by go_num, by rw [h2.out]; go_num⟩
      case measure => simp [intOf]; omega
    · have hz : (catL (ss.take k)).length = (catL ss).length := by rw [List.take_of_length_le (by omega)]
      rw [hz]
      clear hz
      go_wp2_with fail
      refine (grow_any _ _ hn).mono ?_
      rintro e w0 ⟨v0, rfl, hown0, hb0⟩
      go_wp2_with fail
      go_loopw [6, 27] (fun v i wr => ∃ k : Nat, k ≤ ss.length ∧ i = .int .i64 k ∧ wr.ownsRow w.heap.size 63 2 v (catL (ss.take k)).length (cellsOf (catL (ss.take k))) ∧ Below w.heap.size w wr) (fun _ i _ => ss.length - (intOf i).toNat)
      case atStart => exact ⟨0, Nat.zero_le _, rfl, hown0, hb0⟩
      case round =>
        obtain ⟨k, hk, rfl, hown, hb⟩ := hrel
        by_cases hlt : k < ss.length
        · have c1 := (hb.cell (p := ⟨g, o + k, none⟩) hS.lt).trans (hS.cell k _ (List.getElem?_eq_getElem hlt))
          have hps := (hS.ps _ (List.getElem_mem hlt)).below hb
          have hle := catL_le ss (k + 1)
          rw [catL_take ss k hlt, List.length_append] at hle
          obtain ⟨v', w1, hrun, hown', hg', _⟩ := app_pairs wr w.heap.size 36 _ _ hown _ _ (ss[k]).c _ hps (by omega) hb.size
          have HR := hideP hrun
          have HO := hideP hown'
          have HK := hideP (catL_take ss k hlt)
          have hb1 : Below w.heap.size w w1 := hb.grown hg' hb.size (fun j hj => (hown.lt j hj).1)
          clear hrun hown' hown hps hS
          generalize ss[k] = s at c1 HR HO HK hle
          go_wp2_with (at_builtin; refine Lib.wpList_append_run _ rfl _ _ _ _ rfl _ _ rfl rfl _ _ HR.out ?_)
          go_roundw
          case rel => exact ⟨k + 1, by omega, by go_num, by rw [HK.out]; exact HO.out, hb1⟩
          case measure => simp [intOf]; omega
        · rw [List.take_of_length_le (by omega)] at hown
          go_wp2_with fail
          go_ret
          exact ⟨_, rfl, hown, hb⟩

theorem PS.alloc {w : World} {A : Option Addr} {l : List Pr} (h : PS w w.heap.size A l) (o : Obj) : PS (w.alloc o) (w.alloc o).heap.size A l :=
  (h.below ((Below.refl _ w).alloc (Nat.le_refl _) o)).more (by simp)
theorem PS.take_ {w : World} {B : Nat} {A : Option Addr} {l : List Pr} (h : PS w B A l) (q : Nat) : PS w B A (l.take q) := fun i p hp => by
  rw [List.getElem?_take] at hp
  split at hp
  · exact h i p hp
  · cases hp
theorem PS.drop_ {w : World} {B b o : Nat} {l : List Pr} (h : PS w B (some ⟨b, o, none⟩) l) (q : Nat) : PS w B (some ⟨b, o + q * 2, none⟩) (l.drop q) := fun i p hp => by
  rw [List.getElem?_drop] at hp
  obtain ⟨b', o', e, hlt, h1, h2⟩ := h _ p hp
  injection e with e
  injection e with e1 e2 _
  subst e1; subst e2
  rw [Nat.add_mul, ← Nat.add_assoc] at h1 h2
  exact ⟨_, _, rfl, hlt, h1, h2⟩
theorem PS.drop_all {w : World} {B : Nat} {A : Option Addr} {l : List Pr} {q : Nat} (h : l.length ≤ q) : PS w B A (l.drop q) := by
  rw [List.drop_of_length_le h]; exact PS.nil
theorem PS.drewN {w : World} {B : Nat} {A : Option Addr} {l : List Pr} (h : PS w B A l) (n : Nat) : PS (w.drewN n) B A l := h
theorem concat3 (w : World) (g : Nat) (hg : g = w.heap.size) (A1 A2 A3 : Option Addr) (n1 n2 n3 c1 c2 c3 : Nat) (l1 l2 l3 : List Pr) (e1 : n1 = l1.length) (e2 : n2 = l2.length) (e3 : n3 = l3.length)
    (p1 : PS w w.heap.size A1 l1) (p2 : PS w w.heap.size A2 l2) (p3 : PS w w.heap.size A3 l3) (hn : (l1.length + l2.length + l3.length) * 24 ≤ 140737488355328) :
    Calls Tryz.prog 134 #[.slice (some ⟨g, 0, none⟩) 3 3] (w.alloc (.cells #[.slice A1 n1 c1, .slice A2 n2 c2, .slice A3 n3 c3] 36)) (RetRow (w.alloc (.cells #[.slice A1 n1 c1, .slice A2 n2 c2, .slice A3 n3 c3] 36)) (l1 ++ (l2 ++ l3))) := by
  subst hg e1 e2 e3
  have h := concat_any w.heap.size 0 3 [⟨A1, c1, l1⟩, ⟨A2, c2, l2⟩, ⟨A3, c3, l3⟩] (w.alloc (.cells #[.slice A1 l1.length c1, .slice A2 l2.length c2, .slice A3 l3.length c3] 36))
    ⟨by simp, fun j s hj => by
      match j with
      | 0 => simp at hj; subst hj; simp
      | 1 => simp at hj; subst hj; simp
      | 2 => simp at hj; subst hj; simp
      | j + 3 => simp at hj, fun s hs => by
      simp at hs
      rcases hs with rfl | rfl | rfl
      · exact p1.alloc _
      · exact p2.alloc _
      · exact p3.alloc _⟩ (by simp [catL]; omega) (by simp)
  simpa [catL] using h
theorem concat1 (w : World) (g : Nat) (hg : g = w.heap.size) (A1 : Option Addr) (n1 c1 : Nat) (l1 : List Pr) (e1 : n1 = l1.length) (p1 : PS w w.heap.size A1 l1) (hn : l1.length * 24 ≤ 140737488355328) :
    Calls Tryz.prog 134 #[.slice (some ⟨g, 0, none⟩) 1 1] (w.alloc (.cells #[.slice A1 n1 c1] 36)) (RetRow (w.alloc (.cells #[.slice A1 n1 c1] 36)) l1) := by
  subst hg e1
  have h := concat_any w.heap.size 0 1 [⟨A1, c1, l1⟩] (w.alloc (.cells #[.slice A1 l1.length c1] 36))
    ⟨by simp, fun j s hj => by
      match j with
      | 0 => simp at hj; subst hj; simp
      | j + 1 => simp at hj, fun s hs => by
      simp at hs
      subst hs
      exact p1.alloc _⟩ (by simp [catL]; omega) (by simp)
  simpa [catL] using h
theorem concat2 (w : World) (g : Nat) (hg : g = w.heap.size) (A1 A2 : Option Addr) (n1 n2 c1 c2 : Nat) (l1 l2 : List Pr) (e1 : n1 = l1.length) (e2 : n2 = l2.length)
    (p1 : PS w w.heap.size A1 l1) (p2 : PS w w.heap.size A2 l2) (hn : (l1.length + l2.length) * 24 ≤ 140737488355328) :
    Calls Tryz.prog 134 #[.slice (some ⟨g, 0, none⟩) 2 2] (w.alloc (.cells #[.slice A1 n1 c1, .slice A2 n2 c2] 36)) (RetRow (w.alloc (.cells #[.slice A1 n1 c1, .slice A2 n2 c2] 36)) (l1 ++ l2)) := by
  subst hg e1 e2
  have h := concat_any w.heap.size 0 2 [⟨A1, c1, l1⟩, ⟨A2, c2, l2⟩] (w.alloc (.cells #[.slice A1 l1.length c1, .slice A2 l2.length c2] 36))
    ⟨by simp, fun j s hj => by
      match j with
      | 0 => simp at hj; subst hj; simp
      | 1 => simp at hj; subst hj; simp
      | j + 2 => simp at hj, fun s hs => by
      simp at hs
      rcases hs with rfl | rfl
      · exact p1.alloc _
      · exact p2.alloc _⟩ (by simp [catL]; omega) (by simp)
  simpa [catL] using h
end Go.Proofs.YtefdipjhjgmokaaGreatDoor
