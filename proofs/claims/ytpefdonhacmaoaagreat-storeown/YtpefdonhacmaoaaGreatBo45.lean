/-
  rokeep.storeBegun and storeKept.
  rokeep.Within.
  rokeep.Within, keys and Key.
  Boxes of maps (no body of the program in it).
-/
import Derived.Test.YtpefdonhacmaoaaGreatBo8
import Derived.Test.YtpefdonhacmaoaaGreatProg
import Derived.Test.YtpefdonhacmaoaaGreatBo32
import Derived.Test.YtpefdonhacmaoaaGreatBo1
import Derived.WalkKit
import Derived.WalkSpells
import Derived.WalkLawsBesides
import Derived.Test.YtpefdonhacmaoaaGreatBo17
import Derived.Deep.DeepMust
import Derived.Test.YtpefdonhacmaoaaGreatBo37
set_option linter.unusedVariables false
set_option linter.unusedSimpArgs false
namespace Go.Proofs.YtpefdonhacmaoaaGreat
open Go.RowKit

set_option maxHeartbeats 400000 in
set_option maxRecDepth 100000 in
theorem stbegun_any (w : World) : Calls Tryz.prog 16 #[] w fun e w' => e = .returned (.bool true) ∧ Below w.heap.size w w' := by
  have hok : Ok [((⟨#[97]⟩ : ByteArray), (5 : Int))] := chk_ok.1 (by decide +kernel)
  have HL := hideP (fun l' (h1 : Ok l') (h2 : valOf l' = upd (valOf []) ⟨#[97]⟩ 5) => show l'.length = 1 from by
    rw [h1.ext hok fun k => by
      rw [h2]
      by_cases e : k = ⟨#[97]⟩
      · subst e; rw [upd_same, valOf_mem (p := ((⟨#[97]⟩ : ByteArray), (5 : Int))) hok.srt (by simp)]
      · rw [upd_other _ _ e, valOf_none (by simp), valOf_none (fun p hp h => e (by simp at hp; subst hp; exact h.symm))]]
    rfl)
  clear hok
  have HP := hideP (put_st none 0 [] ⟨#[97]⟩ 5 w (SV.nil w) Ok.nil (by decide +kernel) (by decide))
  go_enter Tryz.func16, Tryz.ntmps16
  go_wp2_with fail
  refine HP.out.mono ?_
  rintro e w1 ⟨A, c, l', rfl, _, hok, hv, hb, _⟩
  rw [HL.out l' hok hv]
  clear HP HL hv
  go_wp2_with fail
  go_ret
  exact ⟨rfl, hb⟩
end Go.Proofs.YtpefdonhacmaoaaGreat

set_option linter.unusedVariables false
set_option linter.unusedSimpArgs false
namespace Go.Proofs.YtpefdonhacmaoaaGreat
open Go.RowKit

set_option maxHeartbeats 400000 in
theorem within_any (k : Int) (n : Nat) (h1 : 1 ≤ n) (h2 : n ≤ 1000) (w : World) :
    Calls Tryz.prog 23 #[.int .i64 k, .int .i64 n] w fun e w' => e = .returned (.int .i64 (wi k n)) ∧ w = w' := by
  go_enter Tryz.func23, Tryz.ntmps23
  go_wp2
  go_ret
  exact ⟨ret_int (wi_eq k n h1 h2), rfl⟩
end Go.Proofs.YtpefdonhacmaoaaGreat

set_option linter.unusedVariables false
set_option linter.unusedSimpArgs false
namespace Go.Proofs.YtpefdonhacmaoaaGreat
open Go.RowKit

theorem valB_iff' {n : Int} : valB n = true ↔ -1000000000 ≤ n ∧ n ≤ 1000000000 := by simp [valB]
/-- the keys that are used -/
def keysL : List ByteArray := [⟨#[97]⟩, ⟨#[98]⟩, ⟨#[99]⟩, ⟨#[100]⟩, ⟨#[109]⟩, ⟨#[110]⟩, ⟨#[122]⟩, ⟨#[97, 98]⟩]
def keyN (i : Nat) : ByteArray := keysL.getD i ⟨#[97]⟩
theorem keysL_ok : ∀ k ∈ keysL, keyB k = true := by decide +kernel
theorem keyN_mem {i : Nat} (h : i < 8) : keyN i ∈ keysL := by
  unfold keyN
  rw [List.getD_eq_getElem?_getD, List.getElem?_eq_getElem (by simpa [keysL] using h)]
  exact List.getElem_mem _
theorem keyN_ok {i : Nat} (h : i < 8) : keyB (keyN i) = true := keysL_ok _ (keyN_mem h)
theorem keyN_size {i : Nat} (h : i < 8) : (keyN i).size ≤ 6 := by
  have := keyN_ok h
  simp [keyB] at this
  exact this.1.2
def keysO : Obj := .cells #[.string ⟨#[97]⟩, .string ⟨#[98]⟩, .string ⟨#[99]⟩, .string ⟨#[100]⟩, .string ⟨#[109]⟩, .string ⟨#[110]⟩, .string ⟨#[122]⟩, .string ⟨#[97, 98]⟩] 9

set_option maxHeartbeats 400000 in
theorem keys_any (w : World) : Calls Tryz.prog 65 #[] w fun e w' => e = .returned (.slice (some ⟨w.heap.size, 0, none⟩) 8 8) ∧ w.alloc keysO = w' := by
  go_enter Tryz.func65, Tryz.ntmps65
  go_wp2
  go_ret
  exact ⟨rfl, rfl⟩
theorem keysO_cell (w : World) (i : Nat) (h : i < 8) : (w.alloc keysO).cell? ⟨w.heap.size, i, none⟩ = some (.string (keyN i)) := by
  unfold keysO
  rcases (show i = 0 ∨ i = 1 ∨ i = 2 ∨ i = 3 ∨ i = 4 ∨ i = 5 ∨ i = 6 ∨ i = 7 by omega) with rfl | rfl | rfl | rfl | rfl | rfl | rfl | rfl <;> simp [keyN, keysL]

set_option maxHeartbeats 400000 in
theorem rkey_any (k : Int) (w : World) : Calls Tryz.prog 22 #[.int .i64 k] w fun e w' => e = .returned (.string (keyN (wi k 8))) ∧ w.alloc keysO = w' := by
  have hlt := wi_lt k 8 (by omega)
  have hc := keysO_cell w (wi k 8) hlt
  go_enter Tryz.func22, Tryz.ntmps22
  go_wp2_with fail
  refine (keys_any _).mono ?_
  rintro e w' ⟨rfl, rfl⟩
  go_wp2_with fail
  refine (within_any k 8 (by omega) (by omega) _).mono ?_
  rintro e w' ⟨rfl, rfl⟩
  generalize hs : keyN (wi k 8) = s at hc
  have HS := hideP hs
  clear hs
  generalize hi : wi k 8 = i at hlt hc
  have HI := hideP hi
  clear hi
  generalize hw1 : w.alloc keysO = w1 at hc
  have HW := hideP hw1
  clear hw1
  have g1 : (0 : Int) ≤ (i : Int) := by omega
  have g2 : (i : Int) < 8 := by omega
  go_wp2_with fail
  go_ret
  exact ⟨by rw [← HS.out]; rfl, HW.out⟩

end Go.Proofs.YtpefdonhacmaoaaGreat

set_option linter.unusedVariables false
set_option linter.unusedSimpArgs false
namespace Go.Proofs.YtpefdonhacmaoaaGreat
open Go.RowKit

theorem MH.mk_ {w w2 : World} {m : Mp} (hs : MS w2 m) (hb : Below w.heap.size w w2) : MH w w2.heap.size m (w2.alloc (.cells #[.slice m.A m.cs.length m.ca, .slice m.O m.os.length m.co] 31)) :=
  ⟨Box.new _ _ _, hs.below ((Below.refl _ _).alloc (Nat.le_refl _) _), hb.alloc hb.size _⟩
theorem MH.alloc {w wr : World} {g : Nat} {m : Mp} {o : Obj} (h : MH w g m wr) : MH w g m (wr.alloc o) := h.below ((Below.refl _ _).alloc (Nat.le_refl _) _)
theorem MH.drew {w wr : World} {g : Nat} {m : Mp} (h : MH w g m wr) : MH w g m wr.drew := h.below (Below.refl _ _).drew
/-- a map of the call's own in a box -/
structure MX (w : World) (g : Nat) (m : Mp) (wr : World) : Prop where
  x0 : Box wr g 31 #[.slice m.A m.cs.length m.ca, .slice m.O m.os.length m.co]
  mo : MO wr w.heap.size m
  be : Below w.heap.size w wr
section
variable {w wr w' : World} {g gx : Nat} {m n : Mp}
theorem MX.below (h : MX w g m wr) (hb : Below wr.heap.size wr w') : MX w g m w' := ⟨h.x0.below hb, h.mo.below hb, h.be.trans (hb.mono h.be.size)⟩
theorem MX.alloc {o : Obj} (h : MX w g m wr) : MX w g m (wr.alloc o) := h.below ((Below.refl _ _).alloc (Nat.le_refl _) _)
theorem MX.drew (h : MX w g m wr) : MX w g m wr.drew := h.below (Below.refl _ _).drew
theorem MX.ms (h : MX w g m wr) : MS wr m := h.mo.ms
theorem MX.c (h : MX w g m wr) : wr.cell? ⟨g, 0, none⟩ = some (.slice m.A m.cs.length m.ca) ∧ wr.cell? ⟨g, 1, none⟩ = some (.slice m.O m.os.length m.co) := ⟨h.x0.cell 0 rfl, h.x0.cell 1 rfl⟩
theorem MX.mk_ (hs : MO wr w.heap.size m) (hb : Below w.heap.size w wr) : MX w wr.heap.size m (wr.alloc (.cells #[.slice m.A m.cs.length m.ca, .slice m.O m.os.length m.co] 31)) :=
  ⟨Box.new _ _ _, hs.below ((Below.refl _ _).alloc (Nat.le_refl _) _), hb.alloc hb.size _⟩
/-- a box that was made ahead is filled -/
theorem MX.fill (hn : MO wr w.heap.size n) (hb : Below w.heap.size w wr) {a b : Value} (hx : Box wr gx 31 #[a, b]) (hl : w.heap.size ≤ gx) : MX w gx n ((wr.setCell ⟨gx, 0, none⟩ (.slice n.A n.cs.length n.ca)).setCell ⟨gx, 1, none⟩ (.slice n.O n.os.length n.co)) :=
  have r := res_set hx hl hn hb (.slice n.A n.cs.length n.ca) (.slice n.O n.os.length n.co)
  ⟨by simpa using (hx.set 0 (.slice n.A n.cs.length n.ca)).set 1 (.slice n.O n.os.length n.co), r.1, r.2⟩
theorem MX.other (h : MX w g m wr) {a b : Value} (hx : Box wr gx 31 #[a, b]) (hl : w.heap.size ≤ gx) (hne : gx ≠ g) (x y : Value) : MX w g m ((wr.setCell ⟨gx, 0, none⟩ x).setCell ⟨gx, 1, none⟩ y) :=
  have r := res_set hx hl h.mo h.be x y
  ⟨(h.x0.other (a := ⟨gx, 0, none⟩) hne x).other (a := ⟨gx, 1, none⟩) hne y, r.1, r.2⟩
end
theorem VS.of_box {w : World} {g : Nat} {t : TypeId} {cs : Array Value} (h : Box w g t cs) : VS w (some ⟨g, 0, none⟩) cs.toList := fun i v hv => ⟨g, 0, rfl, h.lt, by rw [Nat.zero_add]; exact h.cell i (by simpa using hv)⟩
theorem OkM.l2 {cs : List ByteArray} {os : List Int} (h : OkM cs os) : os.length ≤ 9223372036854775807 := by have := h.few; have := h.len; omega
end Go.Proofs.YtpefdonhacmaoaaGreat
