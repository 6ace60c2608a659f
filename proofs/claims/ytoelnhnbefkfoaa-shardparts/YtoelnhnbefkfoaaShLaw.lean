/-
  What the laws over partition maps have in common: rokeep.Map in other words, shardBegun, boxes of maps.
-/
import Derived.Test.YtoelnhnbefkfoaaKMap
import Derived.Test.YtoelnhnbefkfoaaShMem
set_option linter.unusedVariables false
set_option linter.unusedSimpArgs false
namespace Go.Proofs.Ytoelnhnbefkfoaa
open Go.RowKit

theorem MH.mk_ {w w2 : World} {m : Mp} (hs : MS w2 m) (hb : Below w.heap.size w w2) : MH w w2.heap.size m (w2.alloc (.cells #[.slice m.A m.cs.length m.ca, .slice m.O m.os.length m.co] 26)) :=
  ⟨Box.new _ _ _, hs.below ((Below.refl _ _).alloc (Nat.le_refl _) _), hb.alloc hb.size _⟩
theorem MH.alloc {w wr : World} {g : Nat} {m : Mp} {o : Obj} (h : MH w g m wr) : MH w g m (wr.alloc o) := h.below ((Below.refl _ _).alloc (Nat.le_refl _) _)
theorem MH.drew {w wr : World} {g : Nat} {m : Mp} (h : MH w g m wr) : MH w g m wr.drew := h.below (Below.refl _ _).drew
/-- a map of the call's own in a box -/
structure MX (w : World) (g : Nat) (m : Mp) (wr : World) : Prop where
  x0 : Box wr g 26 #[.slice m.A m.cs.length m.ca, .slice m.O m.os.length m.co]
  mo : MO wr w.heap.size m
  be : Below w.heap.size w wr
section
variable {w wr w' : World} {g gx : Nat} {m n : Mp}
theorem MX.below (h : MX w g m wr) (hb : Below wr.heap.size wr w') : MX w g m w' := ⟨h.x0.below hb, h.mo.below hb, h.be.trans (hb.mono h.be.size)⟩
theorem MX.alloc {o : Obj} (h : MX w g m wr) : MX w g m (wr.alloc o) := h.below ((Below.refl _ _).alloc (Nat.le_refl _) _)
theorem MX.drew (h : MX w g m wr) : MX w g m wr.drew := h.below (Below.refl _ _).drew
theorem MX.ms (h : MX w g m wr) : MS wr m := h.mo.ms
theorem MX.c (h : MX w g m wr) : wr.cell? ⟨g, 0, none⟩ = some (.slice m.A m.cs.length m.ca) ∧ wr.cell? ⟨g, 1, none⟩ = some (.slice m.O m.os.length m.co) := ⟨h.x0.cell 0 rfl, h.x0.cell 1 rfl⟩
theorem MX.mk_ (hs : MO wr w.heap.size m) (hb : Below w.heap.size w wr) : MX w wr.heap.size m (wr.alloc (.cells #[.slice m.A m.cs.length m.ca, .slice m.O m.os.length m.co] 26)) :=
  ⟨Box.new _ _ _, hs.below ((Below.refl _ _).alloc (Nat.le_refl _) _), hb.alloc hb.size _⟩
/-- a box that was made ahead is filled -/
theorem MX.fill (hn : MO wr w.heap.size n) (hb : Below w.heap.size w wr) {a b : Value} (hx : Box wr gx 26 #[a, b]) (hl : w.heap.size ≤ gx) : MX w gx n ((wr.setCell ⟨gx, 0, none⟩ (.slice n.A n.cs.length n.ca)).setCell ⟨gx, 1, none⟩ (.slice n.O n.os.length n.co)) :=
  have r := res_set hx hl hn hb (.slice n.A n.cs.length n.ca) (.slice n.O n.os.length n.co)
  ⟨by simpa using (hx.set 0 (.slice n.A n.cs.length n.ca)).set 1 (.slice n.O n.os.length n.co), r.1, r.2⟩
theorem MX.other (h : MX w g m wr) {a b : Value} (hx : Box wr gx 26 #[a, b]) (hl : w.heap.size ≤ gx) (hne : gx ≠ g) (x y : Value) : MX w g m ((wr.setCell ⟨gx, 0, none⟩ x).setCell ⟨gx, 1, none⟩ y) :=
  have r := res_set hx hl h.mo h.be x y
  ⟨(h.x0.other (a := ⟨gx, 0, none⟩) hne x).other (a := ⟨gx, 1, none⟩) hne y, r.1, r.2⟩
end
theorem VS.of_box {w : World} {g : Nat} {t : TypeId} {cs : Array Value} (h : Box w g t cs) : VS w (some ⟨g, 0, none⟩) cs.toList := fun i v hv => ⟨g, 0, rfl, h.lt, by rw [Nat.zero_add]; exact h.cell i (by simpa using hv)⟩
theorem OkM.l2 {cs : List ByteArray} {os : List Int} (h : OkM cs os) : os.length < 4611686018427387904 := by have := h.few; have := h.len; omega
/-- a map is handed back, a valid one with few cuts -/
def RetMk (w : World) (e : Ending) (w' : World) : Prop := ∃ m : Mp, e = .returned (.agg #[.slice m.A m.cs.length m.ca, .slice m.O m.os.length m.co]) ∧ OkM m.cs m.os ∧ m.cs.length ≤ 6 ∧ MO w' w.heap.size m ∧ Below w.heap.size w w'
theorem kmap_mk (P : Option Addr) (cp : Nat) (zs : List Int) (w : World) (hP : IS w P zs) (hl : zs.length ≤ 9223372036854775807) :
    Calls Try.prog 9 #[.slice P zs.length cp] w (RetMk w) := by
  refine (kmap_any P cp zs w hP hl).mono ?_
  rintro e w' ⟨A, ca, O, co, rfl, h1, h2, hb⟩
  refine ⟨⟨A, ca, (mapR zs 6).1, O, co, (mapR zs 6).2.map fun (k : Nat) => (k : Int)⟩, by simp only [List.length_map], mapR_ok zs, mapR_few zs 6, ⟨h1, ?_⟩, hb⟩
  have e : ((mapR zs 6).2.map fun (k : Nat) => (k : Int)).map (Value.int .i64) = nV (mapR zs 6).2 := by simp [nV]
  show OR w' w.heap.size 3 O co (((mapR zs 6).2.map fun (k : Nat) => (k : Int)).map (Value.int .i64))
  rw [e]; exact h2
theorem rkey_be (k : Int) (w : World) : Calls Try.prog 11 #[.int .i64 k] w fun e w' => e = .returned (.string (keyN (wi k 8))) ∧ Below w.heap.size w w' := by
  refine (rkey_any k w).mono ?_
  rintro e w' ⟨rfl, rfl⟩
  exact ⟨rfl, (Below.refl _ _).alloc (Nat.le_refl _) _⟩
theorem findV_begun : findV [⟨#[109]⟩] [0, 3] ⟨#[109]⟩ = (3, 0) := by decide +kernel

set_option maxHeartbeats 400000 in
set_option maxRecDepth 100000 in
theorem shbegun_any (w : World) : Calls Try.prog 8 #[] w fun e w' => e = .returned (.bool true) ∧ Below w.heap.size w w' := by
  have b0 := ((Below.refl w.heap.size w).alloc (Nat.le_refl _) (.cells #[.string ⟨#[109]⟩] 9)).alloc (by simp) (.cells #[.int .i64 0, .int .i64 3] 3)
  have x0 := (Box.new w 9 #[.string ⟨#[109]⟩]).alloc (.cells #[.int .i64 0, .int .i64 3] 3)
  have x1 := Box.new (w.alloc (.cells #[.string ⟨#[109]⟩] 9)) 3 #[.int .i64 0, .int .i64 3]
  simp only [World.size_alloc] at x1
  have hm : MS ((w.alloc (.cells #[.string ⟨#[109]⟩] 9)).alloc (.cells #[.int .i64 0, .int .i64 3] 3)) ⟨some ⟨w.heap.size, 0, none⟩, 1, [⟨#[109]⟩], some ⟨w.heap.size + 1, 0, none⟩, 2, [0, 3]⟩ :=
    ⟨VS.of_box x0, VS.is_int (l := [0, 3]) (VS.of_box x1), by simp, by simp, by simp [maxLen], by simp [maxLen], (fun e => by cases e), (fun e => by cases e)⟩
  have HF := hideP (shfind_any _ ⟨#[109]⟩ _ hm (by simp))
  rw [show findV (⟨some ⟨w.heap.size, 0, none⟩, 1, [⟨#[109]⟩], some ⟨w.heap.size + 1, 0, none⟩, 2, [0, 3]⟩ : Mp).cs (⟨some ⟨w.heap.size, 0, none⟩, 1, [⟨#[109]⟩], some ⟨w.heap.size + 1, 0, none⟩, 2, [0, 3]⟩ : Mp).os ⟨#[109]⟩ = (3, 0) from findV_begun] at HF
  clear x0 x1 hm
  go_enter Try.func8, Try.ntmps8
  go_wp2_with fail
  refine HF.out.mono ?_
  rintro e w2 ⟨rfl, hb2⟩
  have hb3 := b0.trans (hb2.mono b0.size)
  clear HF
  go_wp2_with fail
  go_ret
  exact ⟨rfl, hb3⟩
end Go.Proofs.Ytoelnhnbefkfoaa
