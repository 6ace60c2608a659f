/-
  Partition maps as text, plainly (no program in it).
  rokeep.MapOwn: maps with room, and what is made of them (no body of the program in it).
  A number within bounds, plainly (no program in it).
  rokeep.Within.
  rokeep.Within, keys and Key.
  What rokeep.Map makes, plainly (no program in it).
-/
import Derived.Test.YtmepmiokpcddbabGreatDoorCb14
import Derived.Test.YtmepmiokpcddbabGreatDoorCb1
import Derived.Test.YtmepmiokpcddbabGreatDoorCb3
import Derived.Test.YtmepmiokpcddbabGreatDoorCb4
import Derived.Test.YtmepmiokpcddbabGreatDoorCb6
import Derived.Test.YtmepmiokpcddbabGreatDoorCb7
import Derived.Test.YtmepmiokpcddbabGreatDoorCb8
import Derived.Test.YtmepmiokpcddbabGreatDoorCb9
import Derived.Test.YtmepmiokpcddbabGreatDoorCb10
import Derived.Test.YtmepmiokpcddbabGreatDoorCb13
import Derived.Test.YtmepmiokpcddbabGreatDoorCb11
import Derived.WalkKit
import Derived.WalkSpells
import Derived.Test.YtmepmiokpcddbabGreatDoorProg
import Derived.WalkLawsBesides
import Derived.Test.YtmepmiokpcddbabGreatDoorCb2
import Derived.Deep.DeepMust
set_option linter.unusedVariables false
set_option linter.unusedSimpArgs false
namespace Go.Proofs.YtmepmiokpcddbabGreatDoor
open Go.Lib

/-- the words of the cuts and the owners behind them -/
def wdT : List ByteArray → List Int → List (List UInt8)
  | c :: cs, o :: os => c.data.toList :: itoa o :: wdT cs os
  | _, _ => []
/-- the words of a map -/
def wdM (cs : List ByteArray) : List Int → List (List UInt8)
  | o :: os => itoa o :: wdT cs os
  | [] => []
/-- a map that is written -/
def tM (cs : List ByteArray) (os : List Int) : List UInt8 := join (wdM cs os) [58]
/-- words that are read: first an owner, then a cut, and so on -/
def rdW : Bool → List ByteArray → List Int → List (List UInt8) → Option (List ByteArray × List Int)
  | _, cs, os, [] => some (cs, os)
  | true, cs, os, w :: r => match rdN w with
    | none => none
    | some n => rdW false cs (os ++ [n]) r
  | false, cs, os, w :: r => rdW true (cs ++ [bs w]) os r
/-- a map that is read: the error, the cuts and the owners -/
def rdM (l : List UInt8) : Int × List ByteArray × List Int := match rdW true [] [] (spl 58 l) with
  | none => (9, [], [])
  | some (cs, os) => if chkM cs os = 0 then (0, cs, os) else (chkM cs os, [], [])
theorem rdW_true_nil (cs : List ByteArray) (os : List Int) : rdW true cs os [] = some (cs, os) := rfl
theorem rdW_false_nil (cs : List ByteArray) (os : List Int) : rdW false cs os [] = some (cs, os) := rfl
theorem rdW_wdT : ∀ (cs : List ByteArray) (os : List Int) (ca : List ByteArray) (oa : List Int), cs.length = os.length → (∀ n ∈ os, 0 ≤ n ∧ n ≤ 3) → rdW false ca oa (wdT cs os) = some (ca ++ cs, oa ++ os)
  | [], [], ca, oa, _, _ => by simp [wdT, rdW]
  | [], _ :: _, _, _, h, _ => by simp at h
  | _ :: _, [], _, _, h, _ => by simp at h
  | c :: cs, o :: os, ca, oa, h, ho => by
    have h1 := ho o (by simp)
    rw [wdT, rdW, rdW, rdN_own h1.1 (by omega)]
    simp only
    rw [rdW_wdT cs os _ _ (by simpa using h) (fun n hn => ho n (List.mem_cons_of_mem _ hn)), bs_of]
    simp
theorem okM_one {cs : List ByteArray} {os : List Int} (h : OkM cs os) : ∃ o r, os = o :: r ∧ cs.length = r.length := by
  cases os with
  | nil => have := h.len; simp at this
  | cons o r => exact ⟨o, r, rfl, by have := h.len; simp at this; omega⟩
theorem wdM_read {cs : List ByteArray} {os : List Int} (h : OkM cs os) : rdW true [] [] (wdM cs os) = some (cs, os) := by
  obtain ⟨o, r, rfl, hl⟩ := okM_one h
  have h1 := h.own o (by simp)
  rw [wdM, rdW, rdN_own h1.1 (by omega)]
  simp only
  rw [rdW_wdT cs r _ _ hl (fun n hn => h.own n (List.mem_cons_of_mem _ hn))]
  simp
theorem wdT_not {c : UInt8} (h1 : c.toNat < 97) (h2 : c.toNat ≠ 45) (h3 : c.toNat < 48 ∨ 57 < c.toNat) : ∀ (cs : List ByteArray) (os : List Int), (∀ k ∈ cs, keyB k = true) → ∀ x ∈ wdT cs os, c ∉ x
  | [], _, _, x, hx => by simp [wdT] at hx
  | _ :: _, [], _, x, hx => by simp [wdT] at hx
  | k :: cs, o :: os, hk, x, hx => by
    rw [wdT] at hx
    rcases List.mem_cons.1 hx with rfl | hx
    · exact key_not (hk k (by simp)) h1
    rcases List.mem_cons.1 hx with rfl | hx
    · exact num_not h2 h3
    · exact wdT_not h1 h2 h3 cs os (fun j hj => hk j (List.mem_cons_of_mem _ hj)) x hx
theorem okM_keys {cs : List ByteArray} {os : List Int} (h : OkM cs os) : ∀ k ∈ cs, keyB k = true := fun k hk => ((cutsB_iff.1 h.cuts).1 k hk).1
theorem wdM_not {c : UInt8} (h1 : c.toNat < 97) (h2 : c.toNat ≠ 45) (h3 : c.toNat < 48 ∨ 57 < c.toNat) {cs : List ByteArray} {os : List Int} (h : OkM cs os) : ∀ x ∈ wdM cs os, c ∉ x := by
  obtain ⟨o, r, rfl, hl⟩ := okM_one h
  intro x hx
  rw [wdM] at hx
  rcases List.mem_cons.1 hx with rfl | hx
  · exact num_not h2 h3
  · exact wdT_not h1 h2 h3 cs r (okM_keys h) x hx
theorem wdM_ne {cs : List ByteArray} {os : List Int} (h : OkM cs os) : wdM cs os ≠ [] := by
  obtain ⟨o, r, rfl, hl⟩ := okM_one h
  simp [wdM]
theorem spl_tM {cs : List ByteArray} {os : List Int} (h : OkM cs os) : spl 58 (tM cs os) = wdM cs os := spl_join (wdM_ne h) (wdM_not (by decide) (by decide) (by decide) h)
theorem rdM_tM {cs : List ByteArray} {os : List Int} (h : OkM cs os) : rdM (tM cs os) = (0, cs, os) := by
  rw [rdM, spl_tM h, wdM_read h]
  simp only
  rw [if_pos (chkM_ok.2 h)]
/-- what is read, by how the words alternate -/
theorem rdW_inv : ∀ (ws : List (List UInt8)) (ca : List ByteArray) (oa : List Int) (cs : List ByteArray) (os : List Int), rdW false ca oa ws = some (cs, os) →
    ∃ c' o', cs = ca ++ c' ∧ os = oa ++ o' ∧ (c'.length = o'.length ∧ ws = wdT c' o' ∨ c'.length = o'.length + 1)
  | [], ca, oa, cs, os, h => by
    injection h with h
    injection h with h1 h2
    exact ⟨[], [], by simp [h1], by simp [h2], .inl ⟨rfl, rfl⟩⟩
  | [w], ca, oa, cs, os, h => by
    rw [rdW, rdW_true_nil] at h
    injection h with h
    injection h with h1 h2
    exact ⟨[bs w], [], h1.symm, by simp [h2], .inr rfl⟩
  | w :: v :: ws, ca, oa, cs, os, h => by
    rw [rdW, rdW] at h
    split at h
    · cases h
    · next n hn =>
      obtain ⟨c', o', rfl, rfl, hc⟩ := rdW_inv ws _ _ _ _ h
      refine ⟨bs w :: c', n :: o', by simp, by simp, ?_⟩
      rcases hc with ⟨h1, h2⟩ | h1
      · exact .inl ⟨by simp [h1], by rw [wdT, bs_data, (rdN_some hn).1, h2]⟩
      · exact .inr (by simp [h1])
theorem tM_rdM {l : List UInt8} {cs : List ByteArray} {os : List Int} (h : rdM l = (0, cs, os)) : tM cs os = l ∧ OkM cs os := by
  unfold rdM at h
  split at h
  · cases h
  · next cs' os' e =>
    split at h
    · next hc =>
      injection h with _ h
      injection h with h1 h2
      subst h1; subst h2
      have ho := chkM_ok.1 hc
      refine ⟨?_, ho⟩
      cases hs : spl 58 l with
      | nil => exact absurd hs (spl_ne _ _)
      | cons w ws =>
        rw [hs, rdW] at e
        split at e
        · cases e
        · next n hn =>
          obtain ⟨c', o', rfl, rfl, hcc⟩ := rdW_inv ws _ _ _ _ e
          have hl := ho.len
          simp at hl
          rcases hcc with ⟨h1, h2⟩ | h1
          · rw [tM]
            simp only [List.nil_append, List.singleton_append, wdM]
            rw [← h2, (rdN_some hn).1, ← hs, join_spl]
          · omega
    · next hc => injection h with h _; exact absurd h hc
end Go.Proofs.YtmepmiokpcddbabGreatDoor

set_option linter.unusedVariables false
set_option linter.unusedSimpArgs false
namespace Go.Proofs.YtmepmiokpcddbabGreatDoor
open Go.RowKit

def moS : Value := .string ⟨#[109, 97, 114, 107]⟩
def moI : Value := .int .i64 (-7)
def moP : Pr := (⟨#[109, 97, 114, 107]⟩, -7)
def moO : Opr := ⟨-7, ⟨#[]⟩, ⟨#[]⟩, 0⟩
/-- a map with room behind its rows -/
def inM (m : Mp) (gS gI : Nat) : Mp := ⟨some ⟨gS, 0, none⟩, m.cs.length + 3, m.cs, some ⟨gI, 0, none⟩, m.os.length + 3, m.os⟩
structure MoIn (w : World) (m : Mp) (gi gS gI : Nat) (W : World) : Prop where
  xi : Box W gi 28 #[.slice (some ⟨gS, 0, none⟩) m.cs.length (m.cs.length + 3), .slice (some ⟨gI, 0, none⟩) m.os.length (m.os.length + 3)]
  oS : OR W w.heap.size 9 (some ⟨gS, 0, none⟩) (m.cs.length + 3) (m.cs.map Value.string ++ List.replicate 3 moS)
  oI : OR W w.heap.size 3 (some ⟨gI, 0, none⟩) (m.os.length + 3) (m.os.map (Value.int .i64) ++ List.replicate 3 moI)
section
variable {w W W' : World} {m n : Mp} {gi gm gS gI : Nat} {x y z : Option Nat}
theorem MoIn.below (h : MoIn w m gi gS gI W) (hb : Below W.heap.size W W') : MoIn w m gi gS gI W' := ⟨h.xi.below hb, h.oS.below hb, h.oI.below hb⟩
theorem MoIn.mo (h : MoIn w m gi gS gI W) : MO W w.heap.size (inM m gS gI) := ⟨h.oS.head (by simp), h.oI.head (by simp)⟩
theorem MoIn.ms (h : MoIn w m gi gS gI W) : MS W (inM m gS gI) := h.mo.ms
theorem MoIn.c (h : MoIn w m gi gS gI W) : W.cell? ⟨gi, 0, none⟩ = some (.slice (some ⟨gS, 0, none⟩) m.cs.length (m.cs.length + 3)) ∧ W.cell? ⟨gi, 1, none⟩ = some (.slice (some ⟨gI, 0, none⟩) m.os.length (m.os.length + 3)) := ⟨h.xi.cell 0 rfl, h.xi.cell 1 rfl⟩
theorem MoIn.mono {w0 : World} (h : MoIn w m gi gS gI W) (hB : w0.heap.size ≤ w.heap.size) : MoIn w0 m gi gS gI W := ⟨h.xi, h.oS.mono hB, h.oI.mono hB⟩
theorem MoIn.lt (h : MoIn w m gi gS gI W) : (w.heap.size ≤ gS ∧ gS < W.heap.size) ∧ (w.heap.size ≤ gI ∧ gI < W.heap.size) := ⟨World.ownsRow.lt h.oS gS (by rw [ownBlock_slice]; rfl), World.ownsRow.lt h.oI gI (by rw [ownBlock_slice]; rfl)⟩
/-- while the room is made: the box of the result, the rows, if there are any yet -/
structure MoRg (w : World) (gm : Nat) (m : Mp) (x y z : Option Nat) (W : World) : Prop where
  bx : Box W gm 28 #[.slice m.A m.cs.length m.ca, .slice m.O m.os.length m.co]
  be : Below w.heap.size w W
  lt : gm < w.heap.size
  ob : ∀ g, x = some g → Box W g 28 #[.slice none 0 0, .slice none 0 0] ∧ w.heap.size ≤ g
  oS : ∀ g, y = some g → OR W w.heap.size 9 (some ⟨g, 0, none⟩) (m.cs.length + 3) (m.cs.map Value.string ++ List.replicate 3 moS)
  oI : ∀ g, z = some g → OR W w.heap.size 3 (some ⟨g, 0, none⟩) (m.os.length + 3) (m.os.map (Value.int .i64) ++ List.replicate 3 moI)
theorem MoRg.start (hb : Box w gm 28 #[.slice m.A m.cs.length m.ca, .slice m.O m.os.length m.co]) : MoRg w gm m none none none w :=
  ⟨hb, Below.refl _ _, hb.lt, (fun g e => by cases e), (fun g e => by cases e), (fun g e => by cases e)⟩
theorem MoRg.below (h : MoRg w gm m x y z W) (hb : Below W.heap.size W W') : MoRg w gm m x y z W' :=
  ⟨h.bx.below hb, h.be.trans (hb.mono h.be.size), h.lt, fun g e => ⟨(h.ob g e).1.below hb, (h.ob g e).2⟩, fun g e => (h.oS g e).below hb, fun g e => (h.oI g e).below hb⟩
theorem MoRg.drew (h : MoRg w gm m x y z W) : MoRg w gm m x y z W.drew := h.below (Below.refl _ _).drew
theorem MoRg.alloc (h : MoRg w gm m none y z W) : MoRg w gm m (some W.heap.size) y z (W.alloc (.cells #[.slice none 0 0, .slice none 0 0] 28)) := by
  have h1 := h.below ((Below.refl W.heap.size W).alloc (Nat.le_refl _) (.cells #[.slice none 0 0, .slice none 0 0] 28))
  exact ⟨h1.bx, h1.be, h1.lt, fun g e => by injection e with e; subst e; exact ⟨Box.new _ _ _, h.be.size⟩, h1.oS, h1.oI⟩
theorem MoRg.c (h : MoRg w gm m x y z W) : W.cell? ⟨gm, 0, none⟩ = some (.slice m.A m.cs.length m.ca) ∧ W.cell? ⟨gm, 1, none⟩ = some (.slice m.O m.os.length m.co) := ⟨h.bx.cell 0 rfl, h.bx.cell 1 rfl⟩
theorem MoRg.addS (h : MoRg w gm m x none z W) {g : Nat} (hb : Below W.heap.size W W') (ho : OR W' W.heap.size 9 (some ⟨g, 0, none⟩) (m.cs.length + 3) (m.cs.map Value.string ++ List.replicate 3 moS)) : MoRg w gm m x (some g) z W' := by
  have h1 := h.below hb
  exact ⟨h1.bx, h1.be, h1.lt, h1.ob, fun g' e => by injection e with e; subst e; exact ho.mono h.be.size, h1.oI⟩
theorem MoRg.addI (h : MoRg w gm m x y none W) {g : Nat} (hb : Below W.heap.size W W') (ho : OR W' W.heap.size 3 (some ⟨g, 0, none⟩) (m.os.length + 3) (m.os.map (Value.int .i64) ++ List.replicate 3 moI)) : MoRg w gm m x y (some g) W' := by
  have h1 := h.below hb
  exact ⟨h1.bx, h1.be, h1.lt, h1.ob, h1.oS, fun g' e => by injection e with e; subst e; exact ho.mono h.be.size⟩
theorem MoRg.fill (h : MoRg w gm m (some gi) (some gS) (some gI) W) : MoIn w m gi gS gI ((W.setCell ⟨gi, 0, none⟩ (.slice (some ⟨gS, 0, none⟩) m.cs.length (m.cs.length + 3))).setCell ⟨gi, 1, none⟩ (.slice (some ⟨gI, 0, none⟩) m.os.length (m.os.length + 3))) ∧
    Below w.heap.size w ((W.setCell ⟨gi, 0, none⟩ (.slice (some ⟨gS, 0, none⟩) m.cs.length (m.cs.length + 3))).setCell ⟨gi, 1, none⟩ (.slice (some ⟨gI, 0, none⟩) m.os.length (m.os.length + 3))) := by
  obtain ⟨hx, hl⟩ := h.ob gi rfl
  have t1 := hx.ty
  have t2 := (hx.set 0 (.slice (some ⟨gS, 0, none⟩) m.cs.length (m.cs.length + 3))).ty
  refine ⟨⟨?_, ((h.oS gS rfl).set t1 (by decide)).set t2 (by decide), ((h.oI gI rfl).set t1 (by decide)).set t2 (by decide)⟩, ?_⟩
  · have := (hx.set 0 (.slice (some ⟨gS, 0, none⟩) m.cs.length (m.cs.length + 3))).set 1 (.slice (some ⟨gI, 0, none⟩) m.os.length (m.os.length + 3))
    simpa using this
  · exact below_set (below_set h.be hl) hl
theorem MoRg.ca (h : MoRg w gm m x y z W) (o : Obj) : (W.alloc o).cell? ⟨gm, 0, none⟩ = some (.slice m.A m.cs.length m.ca) ∧ (W.alloc o).cell? ⟨gm, 1, none⟩ = some (.slice m.O m.os.length m.co) := ⟨(h.bx.alloc o).cell 0 rfl, (h.bx.alloc o).cell 1 rfl⟩
theorem MoRg.fillc (h : MoRg w gm m (some gi) y z W) (a b : Value) : ((W.setCell ⟨gi, 0, none⟩ a).setCell ⟨gi, 1, none⟩ b).cell? ⟨gm, 0, none⟩ = some (.slice m.A m.cs.length m.ca) ∧ ((W.setCell ⟨gi, 0, none⟩ a).setCell ⟨gi, 1, none⟩ b).cell? ⟨gm, 1, none⟩ = some (.slice m.O m.os.length m.co) := by
  have hl := (h.ob gi rfl).2
  have hlt := h.lt
  have hb := (h.bx.other (a := ⟨gi, 0, none⟩) (by show gi ≠ gm; omega) a).other (a := ⟨gi, 1, none⟩) (by show gi ≠ gm; omega) b
  exact ⟨hb.cell 0 rfl, hb.cell 1 rfl⟩
theorem MoRg.made (h : MoRg w gm m none (some gS) (some gI) W) : MoIn w m W.heap.size gS gI (W.alloc (.cells #[.slice (some ⟨gS, 0, none⟩) m.cs.length (m.cs.length + 3), .slice (some ⟨gI, 0, none⟩) m.os.length (m.os.length + 3)] 28)) ∧
    Below w.heap.size w (W.alloc (.cells #[.slice (some ⟨gS, 0, none⟩) m.cs.length (m.cs.length + 3), .slice (some ⟨gI, 0, none⟩) m.os.length (m.os.length + 3)] 28)) := by
  have al := (Below.refl W.heap.size W).alloc (Nat.le_refl _) (.cells #[.slice (some ⟨gS, 0, none⟩) m.cs.length (m.cs.length + 3), .slice (some ⟨gI, 0, none⟩) m.os.length (m.os.length + 3)] 28)
  exact ⟨⟨Box.new _ _ _, (h.oS gS rfl).below al, (h.oI gI rfl).below al⟩, h.be.trans (al.mono h.be.size)⟩
/-- room was made -/
def MoRoom (w : World) (m : Mp) (v : Value) (wc : World) : Prop := ∃ gi gS gI, v = .pointer (some ⟨gi, 0, none⟩) ∧ MoIn w m gi gS gI wc ∧ Below w.heap.size w wc
/-- while a map is made of one that lies in a box -/
structure MoRm (w : World) (gm : Nat) (v0 v1 : Value) (x : Option Nat) (W : World) : Prop where
  bx : Box W gm 28 #[v0, v1]
  be : Below w.heap.size w W
  lt : gm < w.heap.size
  ob : ∀ g, x = some g → Box W g 28 #[.slice none 0 0, .slice none 0 0] ∧ w.heap.size ≤ g
variable {v0 v1 : Value}
theorem MoRm.start (hb : Box w gm 28 #[v0, v1]) : MoRm w gm v0 v1 none w := ⟨hb, Below.refl _ _, hb.lt, (fun g e => by cases e)⟩
theorem MoRm.below (h : MoRm w gm v0 v1 x W) (hb : Below W.heap.size W W') : MoRm w gm v0 v1 x W' := ⟨h.bx.below hb, h.be.trans (hb.mono h.be.size), h.lt, fun g e => ⟨(h.ob g e).1.below hb, (h.ob g e).2⟩⟩
theorem MoRm.drew (h : MoRm w gm v0 v1 x W) : MoRm w gm v0 v1 x W.drew := h.below (Below.refl _ _).drew
theorem MoRm.alloc (h : MoRm w gm v0 v1 none W) : MoRm w gm v0 v1 (some W.heap.size) (W.alloc (.cells #[.slice none 0 0, .slice none 0 0] 28)) := by
  have h1 := h.below ((Below.refl W.heap.size W).alloc (Nat.le_refl _) (.cells #[.slice none 0 0, .slice none 0 0] 28))
  exact ⟨h1.bx, h1.be, h1.lt, fun g e => by injection e with e; subst e; exact ⟨Box.new _ _ _, h.be.size⟩⟩
theorem MoRm.c (h : MoRm w gm v0 v1 x W) : W.cell? ⟨gm, 0, none⟩ = some v0 ∧ W.cell? ⟨gm, 1, none⟩ = some v1 := ⟨h.bx.cell 0 rfl, h.bx.cell 1 rfl⟩
theorem MoRm.ca (h : MoRm w gm v0 v1 x W) (o : Obj) : (W.alloc o).cell? ⟨gm, 0, none⟩ = some v0 ∧ (W.alloc o).cell? ⟨gm, 1, none⟩ = some v1 := ⟨(h.bx.alloc o).cell 0 rfl, (h.bx.alloc o).cell 1 rfl⟩
theorem MoRm.fillc {gi : Nat} (h : MoRm w gm v0 v1 (some gi) W) (a b : Value) : ((W.setCell ⟨gi, 0, none⟩ a).setCell ⟨gi, 1, none⟩ b).cell? ⟨gm, 0, none⟩ = some v0 ∧ ((W.setCell ⟨gi, 0, none⟩ a).setCell ⟨gi, 1, none⟩ b).cell? ⟨gm, 1, none⟩ = some v1 := by
  have hl := (h.ob gi rfl).2
  have hlt := h.lt
  have hb := (h.bx.other (a := ⟨gi, 0, none⟩) (by show gi ≠ gm; omega) a).other (a := ⟨gi, 1, none⟩) (by show gi ≠ gm; omega) b
  exact ⟨hb.cell 0 rfl, hb.cell 1 rfl⟩
theorem MoRm.fill {gi : Nat} (h : MoRm w gm v0 v1 (some gi) W) (hn : MO W w.heap.size n) : MX w gi n ((W.setCell ⟨gi, 0, none⟩ (.slice n.A n.cs.length n.ca)).setCell ⟨gi, 1, none⟩ (.slice n.O n.os.length n.co)) := MX.fill hn h.be (h.ob gi rfl).1 (h.ob gi rfl).2
theorem MoRm.made (h : MoRm w gm v0 v1 none W) (hn : MO W w.heap.size n) : MX w W.heap.size n (W.alloc (.cells #[.slice n.A n.cs.length n.ca, .slice n.O n.os.length n.co] 28)) := MX.mk_ hn h.be
/-- a map was made -/
def MoMade (w : World) (r : (List ByteArray × List Int) × Int) (v v2 : Value) (wc : World) : Prop := ∃ gx n, v = .pointer (some ⟨gx, 0, none⟩) ∧ v2 = .int .i64 r.2 ∧ n.cs = r.1.1 ∧ n.os = r.1.2 ∧ MX w gx n wc
/-- a map that was made: its rows lie between two marks -/
structure MoR (W : World) (B1 B2 g : Nat) (n : Mp) : Prop where
  bx : Box W g 28 #[.slice n.A n.cs.length n.ca, .slice n.O n.os.length n.co]
  mo : MO W B1 n
  hi : ∀ k, (blk n.A = some k ∨ blk n.O = some k) → k < B2
  sm : n.cs.length ≤ 1000 ∧ n.os.length ≤ 1000
theorem MoR.below {B1 B2 g : Nat} (h : MoR W B1 B2 g n) (hb : Below W.heap.size W W') : MoR W' B1 B2 g n := ⟨h.bx.below hb, h.mo.below hb, h.hi, h.sm⟩
theorem MoR.c {B1 B2 g : Nat} (h : MoR W B1 B2 g n) : W.cell? ⟨g, 0, none⟩ = some (.slice n.A n.cs.length n.ca) ∧ W.cell? ⟨g, 1, none⟩ = some (.slice n.O n.os.length n.co) := ⟨h.bx.cell 0 rfl, h.bx.cell 1 rfl⟩
theorem MoR.of (h : MX w gm n W) (hs : n.cs.length ≤ 1000 ∧ n.os.length ≤ 1000) : MoR W w.heap.size W.heap.size gm n :=
  ⟨h.x0, h.mo, fun k hk => by
    rcases hk with hk | hk
    · exact (World.ownsRow.lt h.mo.cuts k (by rw [ownBlock_slice]; exact hk)).2
    · exact (World.ownsRow.lt h.mo.own k (by rw [ownBlock_slice]; exact hk)).2, hs⟩
end
/-- what came in and its twins with room -/
structure MoA (w : World) (m : Mp) (l : List Pr) (g0 gi gS gI gP : Nat) (W : World) : Prop where
  x0 : Box W g0 28 #[.slice m.A m.cs.length m.ca, .slice m.O m.os.length m.co]
  hi : MoIn w m gi gS gI W
  hp : OV W w.heap.size (some ⟨gP, 0, none⟩) (l.length + 3) (l ++ List.replicate 3 moP)
  be : Below w.heap.size w W
theorem MoA.below {w W W' : World} {m : Mp} {l : List Pr} {g0 gi gS gI gP : Nat} (h : MoA w m l g0 gi gS gI gP W) (hb : Below W.heap.size W W') : MoA w m l g0 gi gS gI gP W' := ⟨h.x0.below hb, h.hi.below hb, h.hp.below hb, h.be.trans (hb.mono h.be.size)⟩
theorem ok_small {cs : List ByteArray} {os : List Int} (h : OkM cs os) : cs.length ≤ 1000 ∧ os.length ≤ 1000 := by have := h.few; have := h.len; omega
theorem cutV_small (cs : List ByteArray) (os : List Int) (key : ByteArray) : (cutV cs os key).1.1.length ≤ 1000 ∧ (cutV cs os key).1.2.length ≤ 1000 := by
  unfold cutV
  split
  · simp
  · next h1 =>
    split
    · simp
    · next h2 =>
      split
      · simp
      · next h3 =>
        split
        · simp
        · next h4 => exact ok_small (cut_ok (chkM_ok.1 (by simpa using h1)) (by simpa using h2) (fun e => h3 (inB_iff.2 e)) (by omega))
theorem giveV_small (cs : List ByteArray) (os : List Int) (i n : Int) : (giveV cs os i n).1.1.length ≤ 1000 ∧ (giveV cs os i n).1.2.length ≤ 1000 := by
  unfold giveV
  split
  · simp
  · next h1 =>
    split
    · simp
    · have := ok_small (chkM_ok.1 (show chkM cs os = 0 by simpa using h1))
      simp only [List.length_set]
      exact this
theorem plainV_small (cs : List ByteArray) (os : List Int) : (plainV cs os).1.1.length ≤ 1000 ∧ (plainV cs os).1.2.length ≤ 1000 := by
  unfold plainV
  split
  · simp
  · next h1 => exact ok_small (plN_valid (chkM_ok.1 (by simpa using h1)))
theorem rdM_small (l : List UInt8) : (rdM l).2.1.length ≤ 1000 ∧ (rdM l).2.2.length ≤ 1000 := by
  unfold rdM
  split
  · simp
  · split
    · next h => exact ok_small (chkM_ok.1 h)
    · simp
end Go.Proofs.YtmepmiokpcddbabGreatDoor

set_option linter.unusedVariables false
set_option linter.unusedSimpArgs false
namespace Go.Proofs.YtmepmiokpcddbabGreatDoor
open Go.RowKit

/-- what Within answers -/
def wi (k : Int) (n : Nat) : Nat := ((IntKind.u64.wrap k).tmod n).toNat
theorem wrap_u64_nonneg (k : Int) : 0 ≤ IntKind.u64.wrap k := by simp [IntKind.wrap_u64]; omega
theorem wi_lt (k : Int) (n : Nat) (h : 1 ≤ n) : wi k n < n := by
  have h0 := wrap_u64_nonneg k
  unfold wi
  have := Int.tmod_lt_of_pos (IntKind.u64.wrap k) (show (0 : Int) < n by omega)
  omega
theorem wi_eq (k : Int) (n : Nat) (h : 1 ≤ n) (h2 : n ≤ 1000000) : wrap64 ((IntKind.u64.wrap k).tmod (n : Int)) = (wi k n : Int) := by
  have h0 := wrap_u64_nonneg k
  have h1 := Int.tmod_lt_of_pos (IntKind.u64.wrap k) (show (0 : Int) < n by omega)
  have h3 := Int.tmod_nonneg (n : Int) h0
  unfold wi wrap64
  omega
end Go.Proofs.YtmepmiokpcddbabGreatDoor

set_option linter.unusedVariables false
set_option linter.unusedSimpArgs false
namespace Go.Proofs.YtmepmiokpcddbabGreatDoor
open Go.RowKit

set_option maxHeartbeats 400000 in
theorem within_any (k : Int) (n : Nat) (h1 : 1 ≤ n) (h2 : n ≤ 1000000) (w : World) :
    Calls Tryz.prog 37 #[.int .i64 k, .int .i64 n] w fun e w' => e = .returned (.int .i64 (wi k n)) ∧ w = w' := by
  go_enter Tryz.func37, Tryz.ntmps37
  go_wp2
  go_ret
  exact ⟨ret_int (wi_eq k n h1 h2), rfl⟩
end Go.Proofs.YtmepmiokpcddbabGreatDoor

set_option linter.unusedVariables false
set_option linter.unusedSimpArgs false
namespace Go.Proofs.YtmepmiokpcddbabGreatDoor
open Go.RowKit

theorem valB_iff' {n : Int} : valB n = true ↔ -1000000000 ≤ n ∧ n ≤ 1000000000 := by simp [valB]
/-- the keys that are used -/
def keysL : List ByteArray := [⟨#[97]⟩, ⟨#[98]⟩, ⟨#[99]⟩, ⟨#[100]⟩, ⟨#[109]⟩, ⟨#[110]⟩, ⟨#[122]⟩, ⟨#[97, 98]⟩]
def keyN (i : Nat) : ByteArray := keysL.getD i ⟨#[97]⟩
theorem keysL_ok : ∀ k ∈ keysL, keyB k = true := by decide +kernel
theorem keyN_mem {i : Nat} (h : i < 8) : keyN i ∈ keysL := by
  unfold keyN
  rw [List.getD_eq_getElem?_getD, List.getElem?_eq_getElem (by simpa [keysL] using h)]
  exact List.getElem_mem _
theorem keyN_ok {i : Nat} (h : i < 8) : keyB (keyN i) = true := keysL_ok _ (keyN_mem h)
theorem keyN_size {i : Nat} (h : i < 8) : (keyN i).size ≤ 6 := by
  have := keyN_ok h
  simp [keyB] at this
  exact this.1.2
def keysO : Obj := .cells #[.string ⟨#[97]⟩, .string ⟨#[98]⟩, .string ⟨#[99]⟩, .string ⟨#[100]⟩, .string ⟨#[109]⟩, .string ⟨#[110]⟩, .string ⟨#[122]⟩, .string ⟨#[97, 98]⟩] 9

set_option maxHeartbeats 400000 in
theorem keys_any (w : World) : Calls Tryz.prog 93 #[] w fun e w' => e = .returned (.slice (some ⟨w.heap.size, 0, none⟩) 8 8) ∧ w.alloc keysO = w' := by
  go_enter Tryz.func93, Tryz.ntmps93
  go_wp2
  go_ret
  exact ⟨rfl, rfl⟩
theorem keysO_cell (w : World) (i : Nat) (h : i < 8) : (w.alloc keysO).cell? ⟨w.heap.size, i, none⟩ = some (.string (keyN i)) := by
  unfold keysO
  rcases (show i = 0 ∨ i = 1 ∨ i = 2 ∨ i = 3 ∨ i = 4 ∨ i = 5 ∨ i = 6 ∨ i = 7 by omega) with rfl | rfl | rfl | rfl | rfl | rfl | rfl | rfl <;> simp [keyN, keysL]

set_option maxHeartbeats 400000 in
theorem rkey_any (k : Int) (w : World) : Calls Tryz.prog 35 #[.int .i64 k] w fun e w' => e = .returned (.string (keyN (wi k 8))) ∧ w.alloc keysO = w' := by
  have hlt := wi_lt k 8 (by omega)
  have hc := keysO_cell w (wi k 8) hlt
  go_enter Tryz.func35, Tryz.ntmps35
  go_wp2_with fail
  refine (keys_any _).mono ?_
  rintro e w' ⟨rfl, rfl⟩
  go_wp2_with fail
  refine (within_any k 8 (by omega) (by omega) _).mono ?_
  rintro e w' ⟨rfl, rfl⟩
  generalize hs : keyN (wi k 8) = s at hc
  have HS := hideP hs
  clear hs
  generalize hi : wi k 8 = i at hlt hc
  have HI := hideP hi
  clear hi
  generalize hw1 : w.alloc keysO = w1 at hc
  have HW := hideP hw1
  clear hw1
  have g1 : (0 : Int) ≤ (i : Int) := by omega
  have g2 : (i : Int) < 8 := by omega
  go_wp2_with fail
  go_ret
  exact ⟨by rw [← HS.out]; rfl, HW.out⟩

end Go.Proofs.YtmepmiokpcddbabGreatDoor

set_option linter.unusedVariables false
set_option linter.unusedSimpArgs false
namespace Go.Proofs.YtmepmiokpcddbabGreatDoor

def cutsL : List ByteArray := [⟨#[97]⟩, ⟨#[98]⟩, ⟨#[98, 98]⟩, ⟨#[100]⟩, ⟨#[109]⟩, ⟨#[112]⟩]
theorem cutsL_ok : cutsB ByteArray.empty cutsL = true := by decide +kernel
/-- the i-th cut is taken -/
def mpT (zs : List Int) (i : Nat) : Bool := decide (i < zs.length) && decide (0 < wi (zs.getD i 0) 3)
/-- the map of the first i cuts -/
def mapR (zs : List Int) : Nat → List ByteArray × List Nat
  | 0 => ([], [0])
  | i + 1 => if mpT zs i = true then ((mapR zs i).1 ++ [cutsL.getD i ByteArray.empty], (mapR zs i).2 ++ [wi ((zs.getD i 0).tdiv 3) 4]) else mapR zs i
theorem mapR_len (zs : List Int) (i : Nat) : (mapR zs i).2.length = (mapR zs i).1.length + 1 := by
  induction i with
  | zero => rfl
  | succ i ih => simp only [mapR]; split <;> simp [ih]
theorem mapR_few (zs : List Int) (i : Nat) : (mapR zs i).1.length ≤ i := by
  induction i with
  | zero => simp [mapR]
  | succ i ih =>
    simp only [mapR]
    split
    · rw [List.length_append, List.length_singleton]; omega
    · omega
theorem mapR_sub (zs : List Int) {i : Nat} (hi : i ≤ 6) : (mapR zs i).1.Sublist (cutsL.take i) := by
  induction i with
  | zero => simp [mapR]
  | succ i ih =>
    have hl : i < cutsL.length := by simp [cutsL]; omega
    have e : cutsL.take (i + 1) = cutsL.take i ++ [cutsL.getD i ByteArray.empty] := by
      rw [List.take_succ_eq_append_getElem hl]; simp [List.getD_eq_getElem?_getD, hl]
    rw [e]
    simp only [mapR]
    split
    · exact (ih (by omega)).append (List.Sublist.refl _)
    · exact (ih (by omega)).trans (List.sublist_append_left _ _)
theorem mapR_own (zs : List Int) (i : Nat) : ∀ n ∈ (mapR zs i).2, n ≤ 3 := by
  induction i with
  | zero => intro n hn; simp [mapR] at hn; omega
  | succ i ih =>
    simp only [mapR]
    split
    · intro n hn
      rcases List.mem_append.1 hn with hn | hn
      · exact ih n hn
      · rw [List.mem_singleton.1 hn]
        have := wi_lt ((zs.getD i 0).tdiv 3) 4 (by decide)
        omega
    · exact ih
theorem mapR_ok (zs : List Int) : OkM (mapR zs 6).1 ((mapR zs 6).2.map fun (k : Nat) => (k : Int)) := by
  have hs := mapR_sub zs (i := 6) (by decide)
  obtain ⟨h1, h2⟩ := cutsB_iff.1 cutsL_ok
  have ht : cutsL.take 6 = cutsL := rfl
  rw [ht] at hs
  refine ⟨by have := mapR_few zs 6; omega, by rw [List.length_map, mapR_len], cutsB_iff.2 ⟨fun k hk => h1 k (hs.subset hk), h2.sublist hs⟩, fun n hn => ?_⟩
  obtain ⟨k, hk, rfl⟩ := List.mem_map.1 hn
  have := mapR_own zs 6 k hk
  omega
end Go.Proofs.YtmepmiokpcddbabGreatDoor
