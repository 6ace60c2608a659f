/-
  roref.Plain: from behind.
-/
import Derived.Test.YtoelnhnbefkfoaaDoorShPlain
import Derived.Test.YtoelnhnbefkfoaaDoorSMap
import Derived.Test.YtoelnhnbefkfoaaDoorBox
import Derived.Test.YtoelnhnbefkfoaaDoorICat
import Derived.Deep.RegionHeld3
set_option linter.unusedVariables false
set_option linter.unusedSimpArgs false
namespace Go.Proofs.YtoelnhnbefkfoaaDoor
open Go.RowKit

theorem plN_take {cs : List ByteArray} {os : List Int} {n : Nat} (hn : n ≤ cs.length) (ho : n < os.length) {k : Nat} (hk : k ≤ n) : plN (cs.take n) (os.take (n + 1)) k = plN cs os k := by
  have h1 : ∀ i, i ≤ n → (os.take (n + 1)).getD i 0 = os.getD i 0 := fun i hi => by simp [List.getD_eq_getElem?_getD, List.getElem?_take, show i < n + 1 by omega]
  have h2 : ∀ i, i < n → (cs.take n).getD i ByteArray.empty = cs.getD i ByteArray.empty := fun i hi => by simp [List.getD_eq_getElem?_getD, List.getElem?_take, hi]
  induction k with
  | zero => simp only [plN]; rw [h1 0 (by omega)]
  | succ k ih => simp only [plN]; rw [h1 _ hk, h1 _ (by omega), h2 _ (by omega), ih (by omega)]
theorem MS.take_ {w : World} {m : Mp} (h : MS w m) (p q : Nat) : MS w ⟨m.A, m.ca, m.cs.take p, m.O, m.co, m.os.take q⟩ :=
  ⟨fun i v hv => h.cuts i v (by rw [List.map_take, List.getElem?_take] at hv; split at hv <;> first | exact hv | cases hv), h.own.take_ q, by have := h.lc; simp only [List.length_take]; omega, by have := h.lo; simp only [List.length_take]; omega, h.mc, h.mo, h.nc, h.no⟩
def RetPn (w : World) (cs : List ByteArray) (os : List Int) (e : Ending) (w' : World) : Prop := ∃ m : Mp, e = .returned (.agg #[.slice m.A m.cs.length m.ca, .slice m.O m.os.length m.co]) ∧ m.cs = (plN cs os cs.length).1 ∧ m.os = (plN cs os cs.length).2 ∧ MS w' m ∧ Below w.heap.size w w'

set_option maxHeartbeats 1000000 in
set_option maxRecDepth 100000 in
theorem rplain_zero (m : Mp) (w : World) (hm : MS w m) (hn : m.cs.length = 0) (ho : m.os.length = 0 + 1) :
    Calls Tryd.prog 20 #[.agg #[.slice m.A m.cs.length m.ca, .slice m.O m.os.length m.co]] w (RetPn w m.cs m.os) := by
  have b0 := ((Below.refl w.heap.size w).alloc (Nat.le_refl _) (.cells #[.slice m.A m.cs.length m.ca, .slice m.O m.os.length m.co] 25)).alloc (by simp) (.cells #[.slice none 0 0, .slice none 0 0] 25)
  have x0 := (Box.new w 25 #[.slice m.A m.cs.length m.ca, .slice m.O m.os.length m.co]).alloc (.cells #[.slice none 0 0, .slice none 0 0] 25)
  have x1 := Box.new (w.alloc (.cells #[.slice m.A m.cs.length m.ca, .slice m.O m.os.length m.co] 25)) 25 #[.slice none 0 0, .slice none 0 0]
  have c0 := x0.cell 0 (v := .slice m.A m.cs.length m.ca) rfl
  have c1 := x0.cell 1 (v := .slice m.O m.os.length m.co) rfl
  have f0 := x1.frozen 0
  have f1 := (x1.set 0 (.slice m.A m.cs.length m.ca)).frozen 1
  have d0 := x1.cell 0 rfl
  have d1 := (x1.set 0 (.slice m.A m.cs.length m.ca)).cell 1 (v := .slice none 0 0) rfl
  simp only [World.size_alloc] at x1 f0 f1 d0 d1
  have e0 : (m.cs.length : Int) = 0 := by omega
  go_enter Tryd.func20, Tryd.ntmps20
  have HN := hideP hn
  have HO := hideP ho
  clear hn ho
  generalize hlc : m.cs.length = lc at b0 x0 x1 c0 c1 f0 f1 d0 d1 e0 HN ⊢
  have HLC := hideP hlc
  clear hlc
  have y := (x1.set 0 (.slice m.A lc m.ca)).set 1 (.slice m.O m.os.length m.co)
  have q0 := y.cell 0 (v := .slice m.A lc m.ca) rfl
  have q1 := y.cell 1 (v := .slice m.O m.os.length m.co) rfl
  clear x0 x1 y
  go_wp2_with fail
  refine bodyPost_ret (v := .agg #[.slice m.A lc m.ca, .slice m.O m.os.length m.co]) (by simp [results, Tryd.results20, go_sem]) rfl ⟨m, by rw [HLC.out], ?_, ?_, ?_, ?_⟩
  · have h := HLC.out; rw [HN.out] at h; rw [h]; exact List.length_eq_zero_iff.1 h
  · have h := HLC.out; rw [HN.out] at h; rw [h]; have := HO.out; cases e : m.os with
    | nil => rw [e] at this; simp at this
    | cons x r => rw [e] at this; simp at this; subst this; simp [plN]
  · exact hm.below (((Below.refl w.heap.size w).alloc (Nat.le_refl _) _).alloc (by simp) _)
  · exact ((Below.refl w.heap.size w).alloc (Nat.le_refl _) _).alloc (by simp) _
/-- while it runs: its map, its result, what it reads -/
structure PH (w : World) (g : Nat) (m : Mp) (n : Nat) (wr : World) : Prop where
  x0 : Box wr g 25 #[.slice m.A (n + 1) m.ca, .slice m.O (n + 1 + 1) m.co]
  x1 : Box wr (g + 1) 25 #[.slice none 0 0, .slice none 0 0]
  ms : MS wr m
  low : w.heap.size ≤ g
  be : Below w.heap.size w wr
theorem PH.below {w wr w' : World} {g : Nat} {m : Mp} {n : Nat} (h : PH w g m n wr) (hb : Below wr.heap.size wr w') : PH w g m n w' := ⟨h.x0.below hb, h.x1.below hb, h.ms.below hb, h.low, h.be.trans (hb.mono h.be.size)⟩
theorem PH.c {w wr : World} {g : Nat} {m : Mp} {n : Nat} (h : PH w g m n wr) : wr.cell? ⟨g, 0, none⟩ = some (.slice m.A (n + 1) m.ca) ∧ wr.cell? ⟨g, 1, none⟩ = some (.slice m.O (n + 1 + 1) m.co) := ⟨h.x0.cell 0 rfl, h.x0.cell 1 rfl⟩
end Go.Proofs.YtoelnhnbefkfoaaDoor
