/-
  rokeep.letters.
-/
import Derived.Test.YtoelnhnbefkfoaaDoorMShelf
import Derived.Test.YtoelnhnbefkfoaaDoorPl
import Derived.Shelf.Strings.MapGrows
import Derived.WalkKit
import Derived.WalkSpells
import Derived.WalkLawsBesides
set_option linter.unusedVariables false
set_option linter.unusedSimpArgs false
namespace Go.Proofs.YtoelnhnbefkfoaaDoor
open Go.RowKit Go.Shelf Go.Lib

theorem mapExtra : Builder.Extra Tryd.prog Tryd.mapS_ren where
  sizeBuilder := by kernel_rfl
  liesBuilder := by kernel_rfl
  t5 := Tryd.mapS.t5
  a5 := Tryd.mapS.a5
  z5 := Tryd.mapS.z5
  v5 := Tryd.mapS.v5
  infoByte := by kernel_rfl
  cellsByte := by kernel_rfl
  sizeByte := by kernel_rfl
  neB5 := by decide
/-- a letter stays, all else goes -/
def keepL (x : Int) : Int := if x < 97 then -1 else if 122 < x then -1 else x
theorem keepL_or (x : Int) : keepL x = -1 ∨ 97 ≤ keepL x ∧ keepL x ≤ 122 := by
  unfold keepL
  split
  · exact .inl rfl
  · split
    · exact .inl rfl
    · exact .inr ⟨by omega, by omega⟩

set_option maxHeartbeats 1000000 in
theorem keep_pays (w : World) : MapGrows Tryd.prog 49 #[] keepL w := by
  intro W x hx hb
  show Calls Tryd.prog 49 #[.int .i32 (x : Int)] W _
  by_cases h1 : (x : Int) < 97
  · have e : keepL (x : Int) = -1 := by unfold keepL; rw [if_pos h1]
    rw [e]
    clear e
    go_enter Tryd.func49, Tryd.ntmps49
    go_wp2
    go_ret
    exact ⟨rfl, Below.refl _ _⟩
  · by_cases h2 : (122 : Int) < (x : Int)
    · have e : keepL (x : Int) = -1 := by unfold keepL; rw [if_neg h1, if_pos h2]
      have g1 : decide ((x : Int) < 97) = false := by simp; omega
      rw [e]
      clear e h1
      go_enter Tryd.func49, Tryd.ntmps49
      go_wp2
      go_ret
      exact ⟨rfl, Below.refl _ _⟩
    · have e : keepL (x : Int) = x := by unfold keepL; rw [if_neg h1, if_neg h2]
      have g1 : decide ((x : Int) < 97) = false := by simp; omega
      have g2 : decide ((122 : Int) < (x : Int)) = false := by simp; omega
      rw [e]
      clear e h1 h2
      go_enter Tryd.func49, Tryd.ntmps49
      go_wp2
      go_ret
      exact ⟨rfl, Below.refl _ _⟩
def letS (s : ByteArray) : ByteArray := ⟨(Lib.mapD keepL s.data.toList).toArray⟩
def Tabs (w : World) : Prop := Lib.Utf8Tabs (Tryd.mapS_ren.g 3) (Tryd.mapS_ren.g 4) w
theorem Tabs.below {w w' : World} (h : Tabs w) (hb : Below w.heap.size w w') : Tabs w' := Utf8Tabs_below h hb

set_option maxHeartbeats 1000000 in
set_option maxRecDepth 100000 in
theorem letters_any (s : ByteArray) (w : World) (hs : s.size < 35184372088832) (hT : Tabs w) :
    Calls Tryd.prog 27 #[.string s] w fun e w' => e = .returned (.string (letS s)) ∧ Below w.heap.size w w' := by
  have HM := hideP (Any.strings_Map_grows Tryd.mapS mapExtra 49 #[] (fun args w => enters_of (P := Tryd.prog) Tryd.func49 (by kernel_rfl) rfl args w) keepL s w hs (keep_pays w) (fun x hx => by rcases keepL_or x with h | h <;> omega) hT)
  go_enter Tryd.func27, Tryd.ntmps27
  go_wp2_with fail
  refine HM.out.mono ?_
  rintro e w1 ⟨rfl, hb⟩
  dsimp only
  go_wp2_with fail
  go_ret
  exact ⟨rfl, hb⟩
/-- what is left are letters -/
theorem encode_low {x : Int} (h1 : 97 ≤ x) (h2 : x ≤ 122) : (encodeRune x).all lowB = true := by
  obtain ⟨k, rfl⟩ : ∃ k : Nat, x = (k : Int) := ⟨x.toNat, by omega⟩
  have : ∀ k : Fin 26, (encodeRune ((k.val + 97 : Nat) : Int)).all lowB = true := by decide +kernel
  have := this ⟨k - 97, by omega⟩
  simpa [show k - 97 + 97 = k by omega] using this
theorem mapGo_low (n : Nat) (l : List UInt8) : (mapGoD keepL n l).all lowB = true := by
  induction n generalizing l with
  | zero => rfl
  | succ n ih =>
    unfold mapGoD
    split
    · rfl
    · rw [List.all_append, ih]
      split
      · rename_i h
        rcases keepL_or (decodeL l).1 with e | ⟨e1, e2⟩
        · omega
        · rw [encode_low e1 e2]; rfl
      · rfl
theorem letS_low (s : ByteArray) : (letS s).data.toList.all lowB = true := by
  have := mapGo_low s.data.toList.length s.data.toList
  simpa [letS, mapD] using this
end Go.Proofs.YtoelnhnbefkfoaaDoor
