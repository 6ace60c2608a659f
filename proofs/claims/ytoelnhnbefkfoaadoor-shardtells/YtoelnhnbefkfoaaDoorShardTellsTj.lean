/-
  The values of keys (no program in it).
  Maps of values of the call's own; roref.Of and roref.List at them.
  roref.Owned: the values whose keys belong to an owner.
  roref.Plain: from behind.
  slices.Equal at pairs: two that read the same are equal.
  The walk of ShardTells: what it has at hand, and where its first map is not valid.
  The walk of ShardTells, at a valid first map, what it calls.
  The walk of ShardTells, at a valid first map, the second not valid.
  The walk of ShardTells, at a valid first map, and a valid second one.
  The walk of ShardTells, all cases.
-/
import Derived.Test.YtoelnhnbefkfoaaDoorSpec
import Derived.Test.YtoelnhnbefkfoaaDoorRef
import Derived.Test.YtoelnhnbefkfoaaDoorCount
import Derived.Test.YtoelnhnbefkfoaaDoorRWhose
import Derived.Test.YtoelnhnbefkfoaaDoorShFind
import Derived.Test.YtoelnhnbefkfoaaDoorShCutW
import Derived.Test.YtoelnhnbefkfoaaDoorShMX
import Derived.Test.YtoelnhnbefkfoaaDoorRPlain
import Derived.Deep.DeepCutAuto
import Derived.Test.YtoelnhnbefkfoaaDoorMem
import Derived.WalkKit
import Derived.WalkSpells
import Derived.WalkLawsBesides
import Derived.Deep.QuietTactic
import Derived.BigQuiet
import Derived.Laws.StructEq
import Derived.Test.YtoelnhnbefkfoaaDoorSSaysPre
import Derived.Test.YtoelnhnbefkfoaaDoorShSame
import Derived.Test.YtoelnhnbefkfoaaDoorShPartW
import Derived.Deep.RegionHeld3
set_option linter.unusedVariables false
set_option linter.unusedSimpArgs false
namespace Go.Proofs.YtoelnhnbefkfoaaDoor
open Go.RowKit

/-- the values of keys -/
abbrev VF := ByteArray → Int
def upd (v : VF) (k : ByteArray) (n : Int) : VF := fun j => if j = k then n else v j
theorem upd_same (v : VF) (k : ByteArray) (n : Int) : upd v k n k = n := by simp [upd]
theorem upd_other (v : VF) {k j : ByteArray} (n : Int) (h : j ≠ k) : upd v k n j = v j := by simp [upd, h]
theorem Ok.vb {l : List Pr} (h : Ok l) (k : ByteArray) : valB (valOf l k) = true := by
  by_cases h0 : valOf l k = 0
  · rw [h0]; decide
  · obtain ⟨p, hp, rfl⟩ := valOf_ne h0
    rw [valOf_mem h.srt hp]
    exact h.val p hp
theorem valB_iff {n : Int} : valB n = true ↔ -1000000000 ≤ n ∧ n ≤ 1000000000 := by simp [valB]
end Go.Proofs.YtoelnhnbefkfoaaDoor

set_option linter.unusedVariables false
set_option linter.unusedSimpArgs false
namespace Go.Proofs.YtoelnhnbefkfoaaDoor
open Go.RowKit Go.WideMaps Go.Maps

/-- a map of values of the call's own -/
structure MV (w : World) (b n : Nat) (f : VF) : Prop where
  ex : ∃ D : DataW Unit, w.ownsMap Tryd.prog 9 (plainElem Tryd.prog 3) b n D ∧ IsMap D ∧ ∀ k, mv D k = f k
section
variable {w w' : World} {b n : Nat} {f : VF}
theorem MV.kept (h : MV w b n f) {row : Option Nat} (hg : w.grownBy w' row) (hne : some b ≠ row) : MV w' b n f := by
  obtain ⟨D, h1, h2, h3⟩ := h.ex; exact ⟨D, h1.kept hg hne, h2, h3⟩
theorem MV.below (h : MV w b n f) (hb : Below w.heap.size w w') : MV w' b n f := h.kept (row := none) ⟨hb.os, hb.tape, hb.output, hb.size, fun k hk _ => hb.block k hk⟩ (by simp)
theorem MV.lt (h : MV w b n f) : b < w.heap.size := by obtain ⟨D, h1, _⟩ := h.ex; exact h1.lt
theorem MV.mono (h : MV w b n f) {m : Nat} (hm : n ≤ m) : MV w b m f := by obtain ⟨D, h1, h2⟩ := h.ex; exact ⟨D, h1.mono hm, h2⟩
theorem MV.look (h : MV w b n f) (x : ByteArray) (hx : x.size ≤ maxLen) : (Instr.lookup 53 (.map (some b)) (.string x) false).run Tryd.prog w = .ok (.int .i64 (f x)) w := by
  obtain ⟨D, h1, _, h3⟩ := h.ex; rw [← h3]; exact look_any h1 x hx
set_option maxRecDepth 100000 in
theorem MV.put (h : MV w b n f) (hn : n ≤ 1000000000) (x : ByteArray) (hx : x.size ≤ maxLen) (c : Int) (hc : (Lit.int .i64 c).wf = true) :
    ∃ w', (Instr.mapUpdate 53 (.map (some b)) (.string x) (.int .i64 c)).run Tryd.prog w = .ok () w' ∧ MV w' b (n + 1) (upd f x c) ∧ w.grownBy w' (some b) := by
  obtain ⟨D, h1, h2, h3⟩ := h.ex
  obtain ⟨w', hrun, hown, hg⟩ := h1.update law9 Tryd.underlying53 (by unfold maxLen; omega) (keyOf_string_mk Tryd.underlying9 hx) (plainElem_int Tryd.underlying3 hc)
  refine ⟨w', hrun, ⟨_, hown, h2.put _ _, fun k => ?_⟩, hg⟩
  by_cases e : k = x
  · subst e; rw [upd_same]; exact mv_put_same h2 k c
  · rw [upd_other _ _ e, ← h3]; exact mv_put_other e c
end
theorem wf_of {c : Int} (h : valB c = true) : (Lit.int .i64 c).wf = true := WalkArith.wf_i64 (by have := valB_iff.1 h; omega)
/-- the list of a map with the values of a valid store is that store -/
theorem lists_eq {D : DataW Unit} {l m : List Pr} (hL : Lists D l) (hm : Ok m) (h : ∀ k, mv D k = valOf m k) : l = m := by
  have hin : ∀ p ∈ l, ∃ q ∈ m, q.1 = p.1 ∧ q.2 = p.2 := fun p hp => by
    have h1 : valOf m p.1 = p.2 := by rw [← h, ← hL.val, valOf_mem hL.srt hp]
    obtain ⟨q, hq, e⟩ := valOf_ne (l := m) (k := p.1) (by rw [h1]; exact hL.nz p hp)
    exact ⟨q, hq, e, by rw [← h1, ← e, valOf_mem hm.srt hq]⟩
  have hl : Ok l := ⟨hL.srt, fun p hp => by obtain ⟨q, hq, e, _⟩ := hin p hp; rw [← e]; exact hm.key q hq, fun p hp => by obtain ⟨q, hq, _, e⟩ := hin p hp; rw [← e]; exact hm.val q hq, hL.nz⟩
  exact hl.ext hm fun k => by rw [hL.val, h]
/-- Of and List, in these words -/
theorem of_mv (A : Option Addr) (c : Nat) (l : List Pr) (w : World) (hA : SV w A c l) (h : Ok l) : Calls Tryd.prog 25 #[.slice A l.length c] w fun e w' => ∃ b, e = .returned (.map (some b)) ∧ MV w' b l.length (valOf l) ∧ Below w.heap.size w w' := by
  refine (of_any A c l w hA.ps (by have := h.small; omega) h.rd).mono ?_
  rintro e w' ⟨b, D, rfl, hown, hIM, hmv, _, hb⟩
  exact ⟨b, rfl, ⟨D, hown, hIM, fun k => by rw [hmv, lastV_eq h.srt]⟩, hb⟩
theorem list_mv (b n : Nat) (f : VF) (m : List Pr) (w : World) (hM : MV w b n f) (hn : n ≤ 1000000000) (hm : Ok m) (hv : valOf m = f) : Calls Tryd.prog 23 #[.map (some b)] w fun e w' => ∃ A c, e = .returned (.slice A m.length c) ∧ SV w' A c m ∧ Below w.heap.size w w' := by
  obtain ⟨D, hown, hIM, hmv⟩ := hM.ex
  have := hown.size_le
  refine (list_any b n D w hown (by omega)).mono ?_
  rintro e w' ⟨A, c, l, rfl, hsv, hli, _, hb⟩
  obtain rfl := lists_eq hli hm (fun k => by rw [hmv, hv])
  exact ⟨A, c, rfl, hsv, hb⟩
end Go.Proofs.YtoelnhnbefkfoaaDoor

set_option linter.unusedVariables false
set_option linter.unusedSimpArgs false
namespace Go.Proofs.YtoelnhnbefkfoaaDoor
open Go.RowKit Go.WideMaps Go.Maps

/-- whose a key is decides -/
def ownF (cs : List ByteArray) (os : List Int) (n : Int) (f : VF) : VF := fun k => if whV cs os k = n then f k else 0
/-- while the values are picked -/
def OwnInv (w : World) (m : Mp) (o : Int) (b it bo n : Nat) (D : DataW Unit) (wr : World) : Prop :=
  ∃ (left : Lit → Bool) (cnt q : Nat) (g : VF), wr.ranges Tryd.prog 9 (plainElem Tryd.prog 3) b it n D left cnt ∧ MV wr bo q g ∧ (∀ k, g k = if left (kl k) = false ∧ whV m.cs m.os k = o then mv D k else 0) ∧ q + cnt ≤ Maps.size D ∧ MH w w.heap.size m wr

set_option maxRecDepth 100000 in
set_option maxHeartbeats 4000000 in
theorem rowned_any (m : Mp) (b n : Nat) (f : VF) (o : Int) (w : World) (hM : MV w b n f) (hn : n ≤ 500000000) (hm : MS w m) (hok : OkM m.cs m.os) :
    Calls Tryd.prog 24 #[.agg #[.slice m.A m.cs.length m.ca, .slice m.O m.os.length m.co], .map (some b), .int .i64 o] w fun e w' => ∃ bo, e = .returned (.map (some bo)) ∧ MV w' bo n (ownF m.cs m.os o f) ∧ Below w.heap.size w w' := by
  have hmm := @run_makeMap Tryd.prog
  have hbl := hM.lt
  obtain ⟨D, hown, hIM, hmv⟩ := hM.ex
  have hsd := hown.size_le
  have hH0 := MH.new hm
  have HW := hideP (fun (key : ByteArray) (W : World) (h : MS W m) => rwhose_any m key W h hok)
  go_enter Tryd.func24, Tryd.ntmps24
  go_wp2_with (first
    | (at_range; refine wpList_range_own _ rfl _ 53 rfl 9 3 law9 Tryd.underlying53 _ b n _ rfl ((hown.alloc _).alloc _) ?_; intro w0 hrg0 hg0 hs0)
    | go_in)
  go_frame
  have e1 : ((w.alloc (.cells #[.slice m.A m.cs.length m.ca, .slice m.O m.os.length m.co] 25)).alloc (.map #[] 0)).heap.size = w.heap.size + 1 + 1 := by simp
  rw [e1] at hrg0 hs0 ⊢
  have hbA : Below w.heap.size w ((w.alloc (.cells #[.slice m.A m.cs.length m.ca, .slice m.O m.os.length m.co] 25)).alloc (.map #[] 0)) := ((Below.refl _ w).alloc (Nat.le_refl _) _).alloc (by simp) _
  have hb0 : Below w.heap.size w w0 := hbA.grown hg0 hbA.size (fun j hj => by cases hj)
  have hMo : MV w0 (w.heap.size + 1) 0 (fun _ => 0) := by
    have h1 := World.ownsMap_made (H := Unit) (w.alloc (.cells #[.slice m.A m.cs.length m.ca, .slice m.O m.os.length m.co] 25)) Tryd.prog 9 (plainElem Tryd.prog 3)
    rw [World.size_alloc] at h1
    exact MV.kept ⟨.map [], h1, isMap_empty, fun k => mv_empty k⟩ hg0 (by simp)
  have hH : MH w w.heap.size m w0 := ⟨(hH0.x0.alloc _).grown hg0 (by simp), hm.below hb0, hb0⟩
  have hs1 : w0.heap.size = w.heap.size + 3 := by omega
  clear hg0 hs0 e1 hbA hown hH0
  go_loopw [] (fun wr => OwnInv w m o b (w.heap.size + 1 + 1) (w.heap.size + 1) n D wr ∧ w.heap.size + 3 ≤ wr.heap.size) (fun wr => wr.rangeLeft b (w.heap.size + 1 + 1))
  case atStart => exact ⟨⟨_, _, 0, _, hrg0, hMo, (fun k => by
      by_cases h : Maps.has D (kl k) = false ∧ whV m.cs m.os k = o
      · rw [if_pos h, mv_none h.1]
      · rw [if_neg h]), by simp, hH⟩, by omega⟩
  case round =>
    obtain ⟨⟨left, cnt, q, g, hrg, hMr, hgk, hmc, hHr⟩, hsz⟩ := hrel
    have HGK := hideP hgk
    clear hrg0 hMo hb0 hH hs1 hgk
    go_wp2_with (first
      | (at_next; refine wpList_next_ranges _ rfl _ rfl 9 law9 (plainElem Tryd.prog 3) Value.string (Value.int .i64) (fun key kl hk => by obtain ⟨x, hx, _⟩ := Maps.keyOf_str Tryd.underlying9 hk; exact ⟨_, hx⟩) (fun v y hv => by obtain ⟨c, rfl, _⟩ := plainElem_int_inv Tryd.underlying3 hv; exact ⟨c, rfl⟩) b (w.heap.size + 1 + 1) n _ _ _ rfl hrg ?_ ?_)
      | go_in)
    · intro hc0 hl0
      have hgf : g = ownF m.cs m.os o f := funext fun k => by
        rw [HGK.out]; unfold ownF
        by_cases h : whV m.cs m.os k = o
        · rw [if_pos ⟨hl0 _, h⟩, if_pos h, hmv]
        · rw [if_neg (fun e => h e.2), if_neg h]
      rw [hgf] at hMr
      have hMn := hMr.mono (show q ≤ n by omega)
      have hbe := hHr.be
      clear HGK hmv hrg hl0 hgf hMr hIM hsd hmc
      go_wp2_with fail
      go_ret
      exact ⟨_, rfl, hMn, hbe⟩
    · intro x cv kl' yd yp w2 cnt2 hkey hlk hv hat hrg2 hlt hg2 hs2 hen
      obtain ⟨x', ex, rfl, hxs⟩ := Maps.keyOf_str Tryd.underlying9 hkey
      obtain rfl : x' = x.data.toList := by unfold encStr at ex; injection ex with ex; rw [ex]
      obtain ⟨c', ec, hyd, hwf⟩ := plainElem_int_inv Tryd.underlying3 hv
      obtain rfl : cv = c' := by injection ec
      have hmvx : mv D x = cv := mv_of (k := x) (fun z => by rw [show kl x = .string x.data.toList from rfl, hat z]; exact congrArg Prod.fst hyd)
      have hM2 := hMr.kept hg2 (by intro e; injection e with e; omega)
      have hb2 : Below w.heap.size w w2 := hHr.be.grown hg2 hHr.be.size (fun j hj => by cases hj; omega)
      have hH2 : MH w w.heap.size m w2 := ⟨hHr.x0.grown hg2 (by intro e; injection e with e; omega), hm.below hb2, hb2⟩
      have hxm : x.size ≤ maxLen := by simpa using hxs
      have hns : ∀ k, k ≠ x → (kl k).sameKey (kl x) = false := fun k e => by
        cases h : (kl k).sameKey (kl x)
        · rfl
        · exact absurd (same_kl h) e
      have hsz2 : w.heap.size + 3 ≤ w2.heap.size := by have := hg2.size; omega
      have HW2 := hideP (HW.out x)
      have HNS := hideP hns
      have HMX := hideP hmvx
      have HWF := hideP hwf
      clear hkey hv hat ex hyd ec hg2 hs2 hxs hb2 hMr hHr hns hmvx hwf
      obtain ⟨z1, z2⟩ := hH2.c
      go_wp2_with fail
      refine (HW2.out _ hH2.ms).mono ?_
      rintro e w3 ⟨rfl, hb3⟩
      dsimp only
      have hgn : w2.grownBy w3 none := ⟨hb3.os, hb3.tape, hb3.output, hb3.size, fun k hk _ => hb3.block k hk⟩
      have hM3 := hM2.below hb3
      have hH3 := hH2.below hb3
      have hrg3 := hrg2.kept hgn (by simp) (by simp)
      have hsz3 : w.heap.size + 3 ≤ w3.heap.size := Nat.le_trans hsz2 hb3.size
      clear hb3 hgn hM2 hH2 hrg2 hsz2 z1 z2 HW2
      by_cases hwo : whV m.cs m.os x = o
      · have dd : (whV m.cs m.os x == o) = true := by simp [hwo]
        obtain ⟨w4, hrun, hM4, hg4⟩ := hM3.put (by omega) x hxm cv HWF.out
        have hb4 : Below w.heap.size w w4 := hH3.be.grown hg4 hH3.be.size (fun j hj => by cases hj; omega)
        have hH4 : MH w w.heap.size m w4 := ⟨hH3.x0.grown hg4 (by intro e; injection e with e; omega), hm.below hb4, hb4⟩
        have hrg4 := hrg3.kept hg4 (by intro e; injection e with e; omega) (by intro e; injection e with e; omega)
        have HGK2 := hideP (show ∀ k, upd g x cv k = if (left (kl k) && !(kl k).sameKey (kl x)) = false ∧ whV m.cs m.os k = o then mv D k else 0 from fun k => by
          by_cases e : k = x
          · subst e
            rw [upd_same, if_pos ⟨by simp [kl, Lit.sameKey], hwo⟩, HMX.out]
          · rw [upd_other _ _ e, HGK.out, HNS.out k e]; simp)
        have hsz4 : w.heap.size + 3 ≤ w4.heap.size := by have := hg4.size; omega
        clear hM3 hH3 hrg3 hg4 hb4 hsz3 HGK HNS HMX HWF hlk hwo
        go_wp2_with fail
        go_roundw
        case rel => exact ⟨⟨_, cnt2, q + 1, _, hrg4, hM4, HGK2.out, by omega, hH4⟩, hsz4⟩
        case measure => rw [hrg4.left_eq, hrg.left_eq]; exact hlt
      · have dd : (whV m.cs m.os x == o) = false := by simp [hwo]
        have HGK2 := hideP (show ∀ k, g k = if (left (kl k) && !(kl k).sameKey (kl x)) = false ∧ whV m.cs m.os k = o then mv D k else 0 from fun k => by
          by_cases e : k = x
          · subst e
            rw [HGK.out, if_neg (fun e => hwo e.2), if_neg (fun e => hwo e.2)]
          · rw [HGK.out, HNS.out k e]; simp)
        clear HGK HNS HMX HWF hlk hwo
        go_wp2_with fail
        go_roundw
        case rel => exact ⟨⟨_, cnt2, q, _, hrg3, hM3, HGK2.out, by omega, hH3⟩, hsz3⟩
        case measure => rw [hrg3.left_eq, hrg.left_eq]; exact hlt
end Go.Proofs.YtoelnhnbefkfoaaDoor

set_option linter.unusedVariables false
set_option linter.unusedSimpArgs false
namespace Go.Proofs.YtoelnhnbefkfoaaDoor
open Go.RowKit

/-- two slices of strings that lie in a slice -/
theorem sconcat2_at (w : World) (g : Nat) (A1 A2 : Option Addr) (c1 c2 : Nat) (l1 l2 : List ByteArray) (hlt : g < w.heap.size)
    (k1 : w.cell? ⟨g, 0, none⟩ = some (.slice A1 l1.length c1)) (k2 : w.cell? ⟨g, 1, none⟩ = some (.slice A2 l2.length c2))
    (p1 : VS w A1 (l1.map Value.string)) (p2 : VS w A2 (l2.map Value.string)) (hn : l1.length + l2.length ≤ 1000000) :
    Calls Tryd.prog 16 #[.slice (some ⟨g, 0, none⟩) 2 2] w fun e w' => ∃ A c, e = .returned (.slice A (l1 ++ l2).length c) ∧ OR w' w.heap.size 9 A c ((l1 ++ l2).map Value.string) ∧ Below w.heap.size w w' := by
  have h := sconcat_any g 0 2 [⟨A1, c1, l1⟩, ⟨A2, c2, l2⟩] w
    ⟨hlt, fun j s hj => by
      match j with
      | 0 => simp at hj; subst hj; exact k1
      | 1 => simp at hj; subst hj; exact k2
      | j + 2 => simp at hj, fun s hs => by
      simp at hs
      rcases hs with rfl | rfl
      · exact p1
      · exact p2⟩ (by simp [catS]; omega) (by simp)
  have e : catS [⟨A1, c1, l1⟩, ⟨A2, c2, l2⟩] = l1 ++ l2 := by simp [catS]
  rw [e] at h
  exact h
/-- what Plain hands back: the argument's, or the call's own -/
structure PM (w : World) (B : Nat) (m k : Mp) : Prop where
  cu : k.cs = [] ∨ OR w B 9 k.A k.ca (k.cs.map Value.string)
  ow : (k.O = m.O ∧ k.os = m.os.take 1) ∨ OR w B 3 k.O k.co (k.os.map (Value.int .i64))
  lc : k.cs.length ≤ k.ca
  lo : k.os.length ≤ k.co
  mc : k.ca ≤ maxLen
  mo : k.co ≤ maxLen
  nc : k.A = none → k.ca = 0
  no : k.O = none → k.co = 0
section
variable {w w' : World} {B B' : Nat} {m k : Mp}
theorem PM.ms (h : PM w B m k) (hm : MS w m) : MS w k := by
  refine ⟨?_, ?_, h.lc, h.lo, h.mc, h.mo, h.nc, h.no⟩
  · rcases h.cu with e | e
    · rw [e]; exact VS.nil
    · exact e.vs
  · rcases h.ow with ⟨e1, e2⟩ | e
    · rw [e1, e2]; exact hm.own.take_ 1
    · exact e.vs.is_int
theorem PM.below (h : PM w B m k) (hb : Below w.heap.size w w') : PM w' B m k := ⟨h.cu.imp id (·.below hb), h.ow.imp id (·.below hb), h.lc, h.lo, h.mc, h.mo, h.nc, h.no⟩
theorem PM.mono (h : PM w B m k) (hB : B' ≤ B) : PM w B' m k := ⟨h.cu.imp id (·.mono hB), h.ow.imp id (·.mono hB), h.lc, h.lo, h.mc, h.mo, h.nc, h.no⟩
theorem PM.set {g i : Nat} {v : Value} (h : PM w B m k) (ht : Ty w g 25) : PM (w.setCell ⟨g, i, none⟩ v) B m k := ⟨h.cu.imp id (·.set ht (by decide)), h.ow.imp id (·.set ht (by decide)), h.lc, h.lo, h.mc, h.mo, h.nc, h.no⟩
theorem PM.of_mo (h : MO w B k) : PM w B m k :=
  have s := h.ms
  ⟨.inr h.cuts, .inr h.own, s.lc, s.lo, s.mc, s.mo, s.nc, s.no⟩
end
def RetPl (w : World) (m : Mp) (e : Ending) (w' : World) : Prop := ∃ k : Mp, e = .returned (.agg #[.slice k.A k.cs.length k.ca, .slice k.O k.os.length k.co]) ∧ k.cs = (plN m.cs m.os m.cs.length).1 ∧ k.os = (plN m.cs m.os m.cs.length).2 ∧ PM w' w.heap.size m k ∧ Below w.heap.size w w'
/-- behind the call of itself: what it handed back lies in its box -/
def PlRel (w : World) (g : Nat) (m : Mp) (cs : List ByteArray) (os : List Int) (v4 : Value) (wc : World) : Prop :=
  ∃ g4 k, v4 = .pointer (some ⟨g4, 0, none⟩) ∧ k.cs = cs ∧ k.os = os ∧ PM wc w.heap.size m k ∧ Box wc g4 25 #[.slice k.A k.cs.length k.ca, .slice k.O k.os.length k.co] ∧ RH w g m wc


set_option maxHeartbeats 1000000 in
set_option maxRecDepth 100000 in
theorem rplainM_zero (m : Mp) (w : World) (hm : MS w m) (hn : m.cs.length = 0) (ho : m.os.length = 0 + 1) :
    Calls Tryd.prog 20 #[.agg #[.slice m.A m.cs.length m.ca, .slice m.O m.os.length m.co]] w (RetPl w m) := by
  have hcs : m.cs = [] := List.length_eq_zero_iff.1 hn
  have x0 := (Box.new w 25 #[.slice m.A m.cs.length m.ca, .slice m.O m.os.length m.co]).alloc (.cells #[.slice none 0 0, .slice none 0 0] 25)
  have x1 := Box.new (w.alloc (.cells #[.slice m.A m.cs.length m.ca, .slice m.O m.os.length m.co] 25)) 25 #[.slice none 0 0, .slice none 0 0]
  have c0 := x0.cell 0 (v := .slice m.A m.cs.length m.ca) rfl
  have c1 := x0.cell 1 (v := .slice m.O m.os.length m.co) rfl
  have f0 := x1.frozen 0
  have f1 := (x1.set 0 (.slice m.A m.cs.length m.ca)).frozen 1
  have d0 := x1.cell 0 rfl
  have d1 := (x1.set 0 (.slice m.A m.cs.length m.ca)).cell 1 (v := .slice none 0 0) rfl
  simp only [World.size_alloc] at x1 f0 f1 d0 d1
  have e0 : (m.cs.length : Int) = 0 := by omega
  go_enter Tryd.func20, Tryd.ntmps20
  have HCS := hideP hcs
  have HO := hideP ho
  clear hn ho hcs
  generalize hlc : m.cs.length = lc at x0 x1 c0 c1 f0 f1 d0 d1 e0 ⊢
  have HLC := hideP hlc
  clear hlc
  have y := (x1.set 0 (.slice m.A lc m.ca)).set 1 (.slice m.O m.os.length m.co)
  have q0 := y.cell 0 (v := .slice m.A lc m.ca) rfl
  have q1 := y.cell 1 (v := .slice m.O m.os.length m.co) rfl
  clear x0 x1 y
  go_wp2_with fail
  have hos : ∃ x, m.os = [x] := by
    have := HO.out
    match h : m.os, this with
    | [x], _ => exact ⟨x, rfl⟩
  obtain ⟨x, hos⟩ := hos
  refine bodyPost_ret (v := .agg #[.slice m.A lc m.ca, .slice m.O m.os.length m.co]) (by simp [results, Tryd.results20, go_sem]) rfl ⟨m, by rw [HLC.out], ?_, ?_, ?_, ?_⟩
  · rw [HCS.out]; rfl
  · rw [HCS.out, hos]; rfl
  · exact ⟨.inl HCS.out, .inl ⟨rfl, by rw [hos]; rfl⟩, hm.lc, hm.lo, hm.mc, hm.mo, hm.nc, hm.no⟩
  · exact ((Below.refl w.heap.size w).alloc (Nat.le_refl _) _).alloc (by simp) _
theorem cell_set_other {w : World} {a p : Addr} {v : Value} (h : p.block ≠ a.block) : (w.setCell a v).cell? p = w.cell? p := by
  unfold World.cell?
  rw [Below.heap_setCell _ _ _ _ h]
/-- behind the call of itself -/
structure RQ (w : World) (g g4 : Nat) (m k : Mp) (wr : World) : Prop where
  rh : RH w g m wr
  pm : PM wr w.heap.size m k
  x4 : Box wr g4 25 #[.slice k.A k.cs.length k.ca, .slice k.O k.os.length k.co]
  hl : g + 1 < g4
section
variable {w wr w' : World} {g g4 : Nat} {m k : Mp}
theorem RQ.below (h : RQ w g g4 m k wr) (hb : Below wr.heap.size wr w') : RQ w g g4 m k w' := ⟨h.rh.below hb, h.pm.below hb, h.x4.below hb, h.hl⟩
theorem RQ.alloc {o : Obj} (h : RQ w g g4 m k wr) : RQ w g g4 m k (wr.alloc o) := h.below ((Below.refl _ _).alloc (Nat.le_refl _) _)
theorem RQ.drew (h : RQ w g g4 m k wr) : RQ w g g4 m k wr.drew := h.below (Below.refl _ _).drew
/-- the result's box is written, with whatever map of the call's own or of the argument's -/
structure RW (w : World) (g : Nat) (m n : Mp) (wr : World) : Prop where
  f0 : wr.frozen? ⟨g + 1, 0, none⟩ = false
  f2 : wr.frozen? ⟨g + 1, 1, none⟩ = false
  f1 : (wr.setCell ⟨g + 1, 0, none⟩ (.slice n.A n.cs.length n.ca)).frozen? ⟨g + 1, 1, none⟩ = false
  d0 : wr.cell? ⟨g + 1, 0, none⟩ = some (.slice none 0 0)
  d2 : wr.cell? ⟨g + 1, 1, none⟩ = some (.slice none 0 0)
  d1 : (wr.setCell ⟨g + 1, 0, none⟩ (.slice n.A n.cs.length n.ca)).cell? ⟨g + 1, 1, none⟩ = some (.slice none 0 0)
  q0 : ((wr.setCell ⟨g + 1, 0, none⟩ (.slice n.A n.cs.length n.ca)).setCell ⟨g + 1, 1, none⟩ (.slice n.O n.os.length n.co)).cell? ⟨g + 1, 0, none⟩ = some (.slice n.A n.cs.length n.ca)
  q1 : ((wr.setCell ⟨g + 1, 0, none⟩ (.slice n.A n.cs.length n.ca)).setCell ⟨g + 1, 1, none⟩ (.slice n.O n.os.length n.co)).cell? ⟨g + 1, 1, none⟩ = some (.slice n.O n.os.length n.co)
  fin : PM ((wr.setCell ⟨g + 1, 0, none⟩ (.slice n.A n.cs.length n.ca)).setCell ⟨g + 1, 1, none⟩ (.slice n.O n.os.length n.co)) w.heap.size m n ∧ Below w.heap.size w ((wr.setCell ⟨g + 1, 0, none⟩ (.slice n.A n.cs.length n.ca)).setCell ⟨g + 1, 1, none⟩ (.slice n.O n.os.length n.co))
theorem RH.rw_ {n : Mp} (h : RH w g m wr) (hn : PM wr w.heap.size m n) : RW w g m n wr :=
  have a := h.res.set 0 (.slice n.A n.cs.length n.ca)
  have r := a.set 1 (.slice n.O n.os.length n.co)
  have hl : w.heap.size ≤ g + 1 := by have := h.low; omega
  ⟨h.res.frozen 0, h.res.frozen 1, a.frozen 1, h.res.cell 0 rfl, h.res.cell 1 rfl, a.cell 1 rfl, r.cell 0 rfl, r.cell 1 rfl, (hn.set h.res.ty).set a.ty, below_set (below_set h.mh.be hl) hl⟩
end
theorem drop_one {m : Mp} {n : Nat} (hn : m.cs.length = n + 1) : m.cs.drop n = [m.cs.getD n ByteArray.empty] := by
  rw [List.drop_eq_getElem_cons (by omega), List.drop_of_length_le (by omega)]; simp [List.getD_eq_getElem?_getD, show n < m.cs.length by omega]
theorem drop_oneO {m : Mp} {n : Nat} (ho : m.os.length = n + 1 + 1) : m.os.drop (n + 1) = [m.os.getD (n + 1) 0] := by
  rw [List.drop_eq_getElem_cons (by omega), List.drop_of_length_le (by omega)]; simp [List.getD_eq_getElem?_getD, show n + 1 < m.os.length by omega]

set_option maxHeartbeats 2000000 in
set_option maxRecDepth 100000 in
theorem rplainM : ∀ (n : Nat) (m : Mp) (w : World) (hm : MS w m) (hn : m.cs.length = n) (ho : m.os.length = n + 1) (h12 : n ≤ 12),
    Calls Tryd.prog 20 #[.agg #[.slice m.A m.cs.length m.ca, .slice m.O m.os.length m.co]] w (RetPl w m) := by
  intro n
  induction n with
  | zero => exact fun m w hm hn ho _ => rplainM_zero m w hm hn ho
  | succ n ih =>
    intro m w hm hn ho h12
    have hH := RH.new hm
    have hlc := hm.lc
    have hlo := hm.lo
    have HIH := hideP (fun (W : World) (h : RH w w.heap.size m W) => show Calls Tryd.prog 20 #[.agg #[.slice m.A n m.ca, .slice m.O m.cs.length m.co]] W fun e w' => ∃ k : Mp, e = .returned (.agg #[.slice k.A k.cs.length k.ca, .slice k.O k.os.length k.co]) ∧ k.cs = (plN m.cs m.os n).1 ∧ k.os = (plN m.cs m.os n).2 ∧ PM w' w.heap.size m k ∧ RH w w.heap.size m w' ∧ Below W.heap.size W w' from by
      have l1 : (m.cs.take n).length = n := by rw [List.length_take]; omega
      have l2 : (m.os.take (n + 1)).length = m.cs.length := by rw [List.length_take]; omega
      have := ih ⟨m.A, m.ca, m.cs.take n, m.O, m.co, m.os.take (n + 1)⟩ W (h.mh.ms.take_ n (n + 1)) l1 (by show (m.os.take (n + 1)).length = n + 1; rw [l2, hn]) (by omega)
      simp only [l1, l2] at this
      refine this.mono ?_
      rintro e w' ⟨k, rfl, h1, h2, h3, h4⟩
      simp only [l1] at h1 h2
      rw [plN_take (by omega) (by omega) (Nat.le_refl _)] at h1 h2
      refine ⟨k, rfl, h1, h2, ⟨h3.cu.imp id (·.mono h.mh.be.size), ?_, h3.lc, h3.lo, h3.mc, h3.mo, h3.nc, h3.no⟩, h.below h4, h4⟩
      rcases h3.ow with ⟨e1, e2⟩ | e
      · exact .inl ⟨e1, by rw [e2]; show (m.os.take (n + 1)).take 1 = _; rw [List.take_take]; congr 1 <;> omega⟩
      · exact .inr (e.mono h.mh.be.size))
    have u1 := fun w => slice_uptoS m.A m.cs.length m.ca n (by omega) hm.nc w
    have u2 := fun w => slice_uptoI m.O m.os.length m.co m.cs.length (by omega) hm.no w
    obtain ⟨A2, u3, hx3, v3⟩ := slice_fromS (m := n) hm.cuts (by omega) hlc hm.nc
    obtain ⟨bO, oO, eO, hx1, hx2⟩ := hm.own 0 (m.os[0]'(by omega)) (by simp [show 0 < m.os.length by omega])
    have u4 := fun w => slice_some bO oO m.os.length m.co m.cs.length (by omega) hlo w
    rw [eO] at u2 HIH
    obtain ⟨O2, hO2⟩ : ∃ O2, O2 = (if m.co = m.cs.length then some (⟨bO, oO, none⟩ : Addr) else some ⟨bO, oO + m.cs.length, none⟩) := ⟨_, rfl⟩
    rw [← hO2] at u4
    have p1 : IntKind.i64.wrap ((m.cs.length : Int) - 1) = (n : Int) := by simp only [IntKind.wrap_i64]; omega
    have e0 : ((m.cs.length : Int) == 0) = false := beq_eq_false_iff_ne.2 (by omega)
    have HS := hideP (fun (W : World) (h : RH w w.heap.size m W) => show W.cell? ⟨w.heap.size, 0, none⟩ = some (.slice m.A m.cs.length m.ca) ∧ W.cell? ⟨w.heap.size, 1, none⟩ = some (.slice (some ⟨bO, oO, none⟩) m.os.length m.co) from by rw [← eO]; exact h.mh.c)
    have HV := hideP (fun (W : World) (h : MS W m) => show W.cell? ⟨bO, oO + m.cs.length, none⟩ = some (.int .i64 (m.os.getD (n + 1) 0)) ∧ W.cell? ⟨bO, oO + n, none⟩ = some (.int .i64 (m.os.getD n 0)) from by
      obtain ⟨b2, o2, e2, _, c2⟩ := h.own (n + 1) (m.os.getD (n + 1) 0) (by simp [List.getD_eq_getElem?_getD, show n + 1 < m.os.length by omega])
      obtain ⟨b3, o3, e3, _, c3⟩ := h.own n (m.os.getD n 0) (by simp [List.getD_eq_getElem?_getD, show n < m.os.length by omega])
      rw [eO] at e2 e3
      injection e2 with e2
      injection e2 with e4 e5
      injection e3 with e3
      injection e3 with e6 e7
      subst e4; subst e5; subst e6; subst e7
      rw [hn]
      exact ⟨c2, c3⟩)
    have HP1 := hideP (fun (g4 : Nat) (k : Mp) (hk : k.cs.length ≤ 100) (W : World) (h : RQ w w.heap.size g4 m k W) (o : Nat) (ho' : o < W.heap.size) (c0 : W.cell? ⟨o, 0, none⟩ = some (.slice k.A k.cs.length k.ca)) (c1 : W.cell? ⟨o, 1, none⟩ = some (.slice A2 (m.cs.length - n) (m.ca - n))) =>
      show Calls Tryd.prog 16 #[.slice (some ⟨o, 0, none⟩) 2 2] W fun e w' => ∃ A c', e = .returned (.slice A (k.cs.length + 1) c') ∧ OR w' w.heap.size 9 A c' ((k.cs ++ [m.cs.getD n ByteArray.empty]).map Value.string) ∧ RQ w w.heap.size g4 m k w' ∧ Below W.heap.size W w' from by
        have := sconcat2_at W o k.A A2 k.ca (m.ca - n) k.cs (m.cs.drop n) ho' c0 (by rw [List.length_drop]; exact c1) (h.pm.ms h.rh.mh.ms).cuts (v3 W h.rh.mh.ms.cuts) (by rw [List.length_drop]; omega)
        rw [drop_one hn, List.length_append, List.length_singleton] at this
        exact this.mono fun e w' ⟨A, c', h1, h2, h3⟩ => ⟨A, c', h1, h2.mono h.rh.mh.be.size, h.below h3, h3⟩)
    have HP2 := hideP (fun (g4 : Nat) (k : Mp) (hk : k.os.length ≤ 100) (W : World) (h : RQ w w.heap.size g4 m k W) (o : Nat) (ho' : o < W.heap.size) (c0 : W.cell? ⟨o, 0, none⟩ = some (.slice k.O k.os.length k.co)) (c1 : W.cell? ⟨o, 1, none⟩ = some (.slice O2 (m.os.length - m.cs.length) (m.co - m.cs.length))) =>
      show Calls Tryd.prog 12 #[.slice (some ⟨o, 0, none⟩) 2 2] W fun e w' => ∃ A c', e = .returned (.slice A (k.os.length + 1) c') ∧ OR w' w.heap.size 3 A c' ((k.os ++ [m.os.getD (n + 1) 0]).map (Value.int .i64)) ∧ RQ w w.heap.size g4 m k w' ∧ Below W.heap.size W w' from by
        have := iconcat2_at W o k.O O2 k.co (m.co - m.cs.length) k.os (m.os.drop m.cs.length) ho' c0 (by rw [List.length_drop]; exact c1) (h.pm.ms h.rh.mh.ms).own.vs (by
          rw [hO2]
          by_cases e : m.co = m.cs.length
          · rw [List.drop_of_length_le (by omega)]; exact VS.nil
          · rw [if_neg e]
            have hI := h.rh.mh.ms.own
            rw [eO] at hI
            exact (hI.drop_ _).vs) (by rw [List.length_drop]; omega)
        rw [hn, drop_oneO ho, List.length_append, List.length_singleton] at this
        exact this.mono fun e w' ⟨A, c', h1, h2, h3⟩ => ⟨A, c', h1, h2.mono h.rh.mh.be.size, h.below h3, h3⟩)
    have HSC := hideP (show plN m.cs m.os m.cs.length = if m.os.getD (n + 1) 0 = m.os.getD n 0 then plN m.cs m.os n else ((plN m.cs m.os n).1 ++ [m.cs.getD n ByteArray.empty], (plN m.cs m.os n).2 ++ [m.os.getD (n + 1) 0]) by rw [hn]; exact plN_succ m.cs m.os n)
    have g1 : (0 : Int) ≤ (m.cs.length : Int) := by omega
    have g2 : (m.cs.length : Int) < (m.os.length : Int) := by omega
    have g3 : (0 : Int) ≤ (n : Int) := by omega
    have g4' : (n : Int) < (m.os.length : Int) := by omega
    have hkl : (plN m.cs m.os n).1.length ≤ 100 ∧ (plN m.cs m.os n).2.length ≤ 100 := by
      have h1 := plN_len m.cs m.os n
      have h2 := (plN_sub (cs := m.cs) m.os (show n ≤ m.cs.length by omega)).length_le
      rw [List.length_take] at h2
      omega
    have HKL := hideP hkl
    clear hn ho hlc hlo hx1 hx2 hx3 v3 eO hO2 ih hkl
    obtain ⟨z1, z2⟩ := hH.mh.c
    go_enter Tryd.func20, Tryd.ntmps20
    go_wp2_with fail
    have hlow : w.heap.size ≤ w.heap.size := Nat.le_refl _
    generalize (w.alloc _).alloc _ = w1 at hH z1 z2 ⊢
    clear z1 z2
    generalize hg : w.heap.size = g at hH HIH HS HP1 HP2 hlow ⊢
    have HGG := hideP hg
    clear hg
    go_cut [4] (fun v4 wc => ∃ g4 k, v4 = .pointer (some ⟨g4, 0, none⟩) ∧ k.cs = (plN m.cs m.os n).1 ∧ k.os = (plN m.cs m.os n).2 ∧ RQ w g g4 m k wc)
    case first =>
      have hgl : g + 1 < w1.heap.size := hH.res.lt
      go_region_held3 (fun w' => w'.cell? ⟨g, 0, none⟩ = some (.slice m.A m.cs.length m.ca) ∧ w'.cell? ⟨g, 1, none⟩ = some (.slice (some ⟨bO, oO, none⟩) m.os.length m.co)) (first | with_reducible exact hS3 | (refine HS.out _ ?_; (repeat first | with_reducible exact hH2 | with_reducible exact hH1 | with_reducible exact hH | with_reducible apply RH.alloc | with_reducible apply RH.drew))) (first
        | (go_at_call 20
           first
             | refine (HIH.out _ hH.drew).mono ?_
             | refine (HIH.out _ hH.alloc.drew).mono ?_
           rintro e wc ⟨k, rfl, hk1, hk2, hpm, hH1, hbc⟩
           have HK1 := hideP hk1
           have HK2 := hideP hk2
           clear hk1 hk2
           first
             | (have hB := (Box.new w1 25 #[.slice none 0 0, .slice none 0 0]).drew.below hbc
                have f0 := hB.frozen 0; have f2 := hB.frozen 1; have d2 := hB.cell 1 (v := .slice none 0 0) rfl; have f1 := (hB.set 0 (.slice k.A k.cs.length k.ca)).frozen 1; have d0 := hB.cell 0 (v := .slice none 0 0) rfl; have d1 := (hB.set 0 (.slice k.A k.cs.length k.ca)).cell 1 (v := .slice none 0 0) rfl
                have hH3 := (hH1.other (b := w1.heap.size) (i := 0) (v := .slice k.A k.cs.length k.ca) (by omega)).other (b := w1.heap.size) (i := 1) (v := .slice k.O k.os.length k.co) (by omega)
                have hS3 := HS.out _ hH3
                have hQ3 : RQ w g w1.heap.size m k _ := ⟨hH3, HGG.out ▸ (hpm.set hB.ty).set (hB.set 0 (.slice k.A k.cs.length k.ca)).ty, by simpa using (hB.set 0 (.slice k.A k.cs.length k.ca)).set 1 (.slice k.O k.os.length k.co), hgl⟩)
             | skip))
      all_goals
        go_wp2_with fail
        go_meet
        case rel => first | exact ⟨_, k, rfl, HK1.out, HK2.out, hQ3⟩ | exact ⟨_, k, rfl, HK1.out, HK2.out, hH1.alloc, HGG.out ▸ hpm.below ((Below.refl _ _).alloc (Nat.le_refl _) _), Box.new _ _ _, hH1.res.lt⟩
    case rest =>
      obtain ⟨g4, k, rfl, hk1, hk2, hQ⟩ := hcut
      have hkc : k.cs.length ≤ 100 := by rw [hk1]; exact HKL.out.1
      have hko : k.os.length ≤ 100 := by rw [hk2]; exact HKL.out.2
      have HK1 := hideP hk1
      have HK2 := hideP hk2
      clear hk1 hk2 HIH hH
      obtain ⟨y1, y2⟩ := HV.out _ hQ.rh.mh.ms
      obtain ⟨z1, z2⟩ := HS.out _ hQ.rh
      generalize hvx : m.os.getD (n + 1) 0 = x at y1 HP2
      generalize hvy : m.os.getD n 0 = y at y2
      by_cases hxy : x = y
      · have HSX := hideP (show plN m.cs m.os m.cs.length = plN m.cs m.os n by rw [HSC.out, hvx, hvy, if_pos hxy])
        have dd : (x == y) = true := by simp [hxy]
        clear hxy hvx hvy HSC HP1 HP2
        go_wp2_with fail
        go_quiet (fail)
        replace hQ := hQ.below (w' := wc.drewN nq) ⟨rfl, rfl, rfl, Nat.le_refl _, fun _ _ => rfl⟩
        generalize wc.drewN nq = wq at hQ ⊢
        clear y1 y2 z1 z2
        have c0 := hQ.x4.cell 0 (v := .slice k.A k.cs.length k.ca) rfl
        have c1 := hQ.x4.cell 1 (v := .slice k.O k.os.length k.co) rfl
        obtain ⟨f0, f2, f1, d0, d2, d1, q0, q1, hfin⟩ := hQ.rh.rw_ hQ.pm
        have HF := hideP hfin
        clear hfin hQ
        go_wp2_with fail
        exact bodyPost_ret (v := .agg #[.slice k.A k.cs.length k.ca, .slice k.O k.os.length k.co]) (by simp [results, Tryd.results20, go_sem, q0, q1]) rfl ⟨k, rfl, by rw [HSX.out]; exact HK1.out, by rw [HSX.out]; exact HK2.out, HF.out.1, HF.out.2⟩
      · have HSX := hideP (show plN m.cs m.os m.cs.length = (k.cs ++ [m.cs.getD n ByteArray.empty], k.os ++ [x]) by rw [HSC.out, hvx, hvy, if_neg hxy, HK1.out, HK2.out])
        have dd : (x == y) = false := by simp [hxy]
        clear hxy hvx hvy HSC
        generalize m.cs.getD n ByteArray.empty = cn at HP1 HSX
        have HQ1 := hideP (HP1.out g4 k hkc)
        have HQ2 := hideP (HP2.out g4 k hko)
        clear HP1 HP2
        go_wp2_with fail
        go_quiet (fail)
        replace hQ := hQ.below (w' := wc.drewN nq) ⟨rfl, rfl, rfl, Nat.le_refl _, fun _ _ => rfl⟩
        generalize wc.drewN nq = wq at hQ ⊢
        clear y1 y2 z1 z2
        have hql := hQ.x4.lt
        have HS2 := hideP (fun (W : World) (h : RQ w g g4 m k W) => show W.cell? ⟨g4, 0, none⟩ = some (.slice k.A k.cs.length k.ca) ∧ W.cell? ⟨g4, 1, none⟩ = some (.slice k.O k.os.length k.co) ∧ W.cell? ⟨g, 0, none⟩ = some (.slice m.A m.cs.length m.ca) ∧ W.cell? ⟨g, 1, none⟩ = some (.slice (some ⟨bO, oO, none⟩) m.os.length m.co) from ⟨h.x4.cell 0 rfl, h.x4.cell 1 rfl, (HS.out _ h.rh).1, (HS.out _ h.rh).2⟩)
        have HS3 := hideP (fun (W : World) (h : RQ w g g4 m k W) (a b : Value) => show ((W.setCell ⟨g + 1, 0, none⟩ a).setCell ⟨g + 1, 1, none⟩ b).cell? ⟨g4, 0, none⟩ = some (.slice k.A k.cs.length k.ca) ∧ ((W.setCell ⟨g + 1, 0, none⟩ a).setCell ⟨g + 1, 1, none⟩ b).cell? ⟨g4, 1, none⟩ = some (.slice k.O k.os.length k.co) ∧ ((W.setCell ⟨g + 1, 0, none⟩ a).setCell ⟨g + 1, 1, none⟩ b).cell? ⟨g, 0, none⟩ = some (.slice m.A m.cs.length m.ca) ∧ ((W.setCell ⟨g + 1, 0, none⟩ a).setCell ⟨g + 1, 1, none⟩ b).cell? ⟨g, 1, none⟩ = some (.slice (some ⟨bO, oO, none⟩) m.os.length m.co) from by
          have hl := h.hl
          obtain ⟨k1, k2, k3, k4⟩ := HS2.out W h
          have n1 : g4 ≠ g + 1 := by omega
          have n2 : g ≠ g + 1 := by omega
          refine ⟨?_, ?_, ?_, ?_⟩
          · rw [cell_set_other (a := ⟨g + 1, 1, none⟩) n1, cell_set_other (a := ⟨g + 1, 0, none⟩) n1]; exact k1
          · rw [cell_set_other (a := ⟨g + 1, 1, none⟩) n1, cell_set_other (a := ⟨g + 1, 0, none⟩) n1]; exact k2
          · rw [cell_set_other (a := ⟨g + 1, 1, none⟩) n2, cell_set_other (a := ⟨g + 1, 0, none⟩) n2]; exact k3
          · rw [cell_set_other (a := ⟨g + 1, 1, none⟩) n2, cell_set_other (a := ⟨g + 1, 0, none⟩) n2]; exact k4)
        go_wp2_with fail
        go_region_held3 (fun w' => w'.cell? ⟨g4, 0, none⟩ = some (.slice k.A k.cs.length k.ca) ∧ w'.cell? ⟨g4, 1, none⟩ = some (.slice k.O k.os.length k.co) ∧ w'.cell? ⟨g, 0, none⟩ = some (.slice m.A m.cs.length m.ca) ∧ w'.cell? ⟨g, 1, none⟩ = some (.slice (some ⟨bO, oO, none⟩) m.os.length m.co)) (first | with_reducible exact hS3 | (refine HS2.out _ ?_; (repeat first | with_reducible exact hQ3 | with_reducible exact hQ2 | with_reducible exact hQ1 | with_reducible exact hQ | with_reducible apply RQ.alloc | with_reducible apply RQ.drew))) (first
          | (go_at_call 16
             refine (HQ1.out _ (by (repeat first | with_reducible exact hQ3 | with_reducible exact hQ2 | with_reducible exact hQ1 | with_reducible exact hQ | with_reducible apply RQ.alloc | with_reducible apply RQ.drew)) _ (by simp <;> omega) (by first | exact cell_dr (cell_nw (by simp) rfl) | exact cell_dr (cell_ol (by simp <;> omega) (cell_nw (by simp) rfl)) | exact cell_dr (cell_ol (by simp <;> omega) (cell_ol (by simp <;> omega) (cell_nw (by simp) rfl))) | exact cell_nw (by simp) rfl) (by first | exact cell_dr (cell_nw (by simp) rfl) | exact cell_dr (cell_ol (by simp <;> omega) (cell_nw (by simp) rfl)) | exact cell_dr (cell_ol (by simp <;> omega) (cell_ol (by simp <;> omega) (cell_nw (by simp) rfl))) | exact cell_nw (by simp) rfl)).mono ?_
             rintro e w4 ⟨A', ca', rfl, hA, hQ1, hb4⟩
             dsimp only)
          | (go_at_call 12
             first
               | (refine (HQ2.out _ (by (repeat first | with_reducible exact hQ3 | with_reducible exact hQ2 | with_reducible exact hQ1 | with_reducible exact hQ | with_reducible apply RQ.alloc | with_reducible apply RQ.drew)) _ (by simp <;> omega) (by first | exact cell_dr (cell_nw (by simp) rfl) | exact cell_dr (cell_ol (by simp <;> omega) (cell_nw (by simp) rfl)) | exact cell_dr (cell_ol (by simp <;> omega) (cell_ol (by simp <;> omega) (cell_nw (by simp) rfl))) | exact cell_nw (by simp) rfl) (by first | exact cell_dr (cell_nw (by simp) rfl) | exact cell_dr (cell_ol (by simp <;> omega) (cell_nw (by simp) rfl)) | exact cell_dr (cell_ol (by simp <;> omega) (cell_ol (by simp <;> omega) (cell_nw (by simp) rfl))) | exact cell_nw (by simp) rfl)).mono ?_)
               | (refine (HQ2.out _ hQ1 _ ?_ ((hb4.cell (by simp <;> omega)).trans (by first | exact cell_dr (cell_nw (by simp) rfl) | exact cell_dr (cell_ol (by simp <;> omega) (cell_nw (by simp) rfl)) | exact cell_dr (cell_ol (by simp <;> omega) (cell_ol (by simp <;> omega) (cell_nw (by simp) rfl))) | exact cell_nw (by simp) rfl)) ((hb4.cell (by simp <;> omega)).trans (by first | exact cell_dr (cell_nw (by simp) rfl) | exact cell_dr (cell_ol (by simp <;> omega) (cell_nw (by simp) rfl)) | exact cell_dr (cell_ol (by simp <;> omega) (cell_ol (by simp <;> omega) (cell_nw (by simp) rfl))) | exact cell_nw (by simp) rfl))).mono ?_
                  · refine Nat.lt_of_lt_of_le ?_ hb4.size; (simp <;> omega))
             rintro e w5 ⟨O', co', rfl, hO, hQ2, hb5⟩
             have hA2 : OR w5 g 9 A' ca' ((k.cs ++ [cn]).map Value.string) := by first | exact hA.below hb5 | exact (hA.below ((Below.refl _ _).alloc (Nat.le_refl _) _)).below hb5
             have hmo : MO w5 w.heap.size ⟨A', ca', k.cs ++ [cn], O', co', k.os ++ [x]⟩ := HGG.out ▸ ⟨hA2, hO⟩
             obtain ⟨f0, f2, f1, d0, d2, d1, q0, q1, hfin⟩ := hQ2.rh.rw_ (PM.of_mo (m := m) hmo)
             simp only [List.length_append, List.length_singleton] at f1 d1 q0 q1 hfin
             have HF := hideP hfin
             have hS3 := HS3.out _ hQ2 (.slice A' (k.cs.length + 1) ca') (.slice O' (k.os.length + 1) co')
             clear hfin
             dsimp only))
        all_goals
          go_wp2_with fail
          exact bodyPost_ret (v := .agg #[.slice A' (k.cs.length + 1) ca', .slice O' (k.os.length + 1) co']) (by simp [results, Tryd.results20, go_sem, q0, q1]) rfl ⟨⟨A', ca', k.cs ++ [cn], O', co', k.os ++ [x]⟩, by simp only [List.length_append, List.length_singleton], by rw [HSX.out], by rw [HSX.out], HF.out.1, HF.out.2⟩
end Go.Proofs.YtoelnhnbefkfoaaDoor

set_option linter.unusedVariables false
set_option linter.unusedSimpArgs false
namespace Go.Proofs.YtoelnhnbefkfoaaDoor
open Go.RowKit

theorem run_neq_pair (k : ByteArray) (n : Int) (w : World) : (binOp .neq 50 (.agg #[.string k, .int .i64 n]) (.agg #[.string k, .int .i64 n])).run Tryd.prog w = .ok (.bool false) w := by
  have u3 := Tryd.underlying3
  have u9 := Tryd.underlying9
  have a3 := Tryd.isAgg3
  have z3 := Tryd.sizeOf3
  have a9 := Tryd.isAgg9
  have z9 := Tryd.sizeOf9
  have hS : Tryd.prog.underlying 50 = some (.struct (Tryd.prog.fieldsOf 50)) := by kernel_rfl
  have hp : Tryd.prog.stoodInHeld 50 = false := by kernel_rfl
  rw [run_neq_struct, show (10000 : Nat) = 9999 + 1 from rfl, run_equalIn_agg w 9999 50 _ _ hS hp]
  simp only [Program.fieldsOf, Tryd.underlying50]
  go_simp

theorem guard_pair (x y : Operand) (xs ys : Array Value) (w : World) : (eqGuard .neq 50 x y (.agg xs) (.agg ys)).run Tryd.prog w = .ok () w := run_eqGuard_agg w .neq 50 x y xs ys (by kernel_rfl)

set_option maxHeartbeats 400000 in
set_option maxRecDepth 100000 in
theorem equal_same (A1 A2 : Option Addr) (c1 c2 : Nat) (l : List Pr) (w : World) (h1 : PS w w.heap.size A1 l) (h2 : PS w w.heap.size A2 l) (hl : l.length < 4611686018427387904) :
    Calls Tryd.prog 22 #[.slice A1 l.length c1, .slice A2 l.length c2] w fun e w' => e = .returned (.bool true) ∧ Below w.heap.size w w' := by
  have d0 : ((l.length : Int) != (l.length : Int)) = false := by simp
  go_enter Tryd.func22, Tryd.ntmps22
  go_wp2_with fail
  go_loopw [13] (fun i wr => ∃ k : Nat, k ≤ l.length ∧ i = .int .i64 k ∧ Below w.heap.size w wr) (fun i _ => l.length - (intOf i).toNat)
  case atStart => exact ⟨0, Nat.zero_le _, rfl, Below.refl _ _⟩
  case round =>
    obtain ⟨k, hk, rfl, hb⟩ := hrel
    by_cases hlt : k < l.length
    · obtain ⟨b, o, rfl, hbl, q1, q2⟩ := h1.below hb k _ (List.getElem?_eq_getElem hlt)
      obtain ⟨b', o', rfl, hbl', q3, q4⟩ := h2.below hb k _ (List.getElem?_eq_getElem hlt)
      clear h1 h2
      generalize l[k] = p at q1 q2 q3 q4
      have g1 : (0 : Int) ≤ (k : Int) := by omega
      have g2 : (k : Int) < (l.length : Int) := by omega
      have n1 := run_neq_pair p.1 p.2
      have n2 := guard_pair
      go_wp2_with fail
      go_quiet (fail)
      go_wp2_with fail
      go_roundw
      case rel => exact ⟨k + 1, by omega, by go_num, ⟨hb.os, hb.tape, hb.output, hb.size, hb.block⟩⟩
      case measure => simp [intOf]; omega
    · go_wp2_with fail
      go_ret
      exact ⟨rfl, hb⟩
end Go.Proofs.YtoelnhnbefkfoaaDoor

set_option linter.unusedVariables false
set_option linter.unusedSimpArgs false
namespace Go.Proofs.YtoelnhnbefkfoaaDoor
open Go.RowKit

/-- while the law runs: its two maps, the plain one, its store, the part -/
structure TA (w : World) (g : Nat) (a b : Mp) (gp : Nat) (p : Mp) (A : Option Addr) (c : Nat) (l : List Pr) (X : Option Addr) (cx : Nat) (xs : List Pr) (wr : World) : Prop where
  ma : MH w g a wr
  mb : MH w (g + 1) b wr
  mp : MX w gp p wr
  sl : SV wr A c l
  sx : SV wr X cx xs
section
variable {w wr w' : World} {g gp : Nat} {a b p : Mp} {A X : Option Addr} {c cx : Nat} {l xs : List Pr}
theorem TA.below (h : TA w g a b gp p A c l X cx xs wr) (hb : Below wr.heap.size wr w') : TA w g a b gp p A c l X cx xs w' := ⟨h.ma.below hb, h.mb.below hb, h.mp.below hb, h.sl.below hb, h.sx.below hb⟩
theorem TA.alloc {o : Obj} (h : TA w g a b gp p A c l X cx xs wr) : TA w g a b gp p A c l X cx xs (wr.alloc o) := h.below ((Below.refl _ _).alloc (Nat.le_refl _) _)
theorem TA.drew (h : TA w g a b gp p A c l X cx xs wr) : TA w g a b gp p A c l X cx xs wr.drew := h.below (Below.refl _ _).drew
end
theorem plainV_lit : plainV [⟨#[98]⟩] [2, 2] = (([], [2]), 0) := by decide +kernel
/-- a map of one owner in memory -/
theorem MS.one (W : World) : MS (W.alloc (.cells #[.int .i64 2] 3)) ⟨none, 0, [], some ⟨W.heap.size, 0, none⟩, 1, [2]⟩ :=
  ⟨VS.nil, VS.is_int (l := [2]) (VS.of_box (Box.new W 3 #[.int .i64 2])), by simp, by simp, by simp [maxLen], by simp [maxLen], (fun _ => rfl), (fun e => by cases e)⟩
/-- the literal map of the law -/
theorem MS.lit2 (W : World) : MS ((W.alloc (.cells #[.string ⟨#[98]⟩] 9)).alloc (.cells #[.int .i64 2, .int .i64 2] 3)) ⟨some ⟨W.heap.size, 0, none⟩, 1, [⟨#[98]⟩], some ⟨W.heap.size + 1, 0, none⟩, 2, [2, 2]⟩ := by
  have x0 := (Box.new W 9 #[.string ⟨#[98]⟩]).alloc (.cells #[.int .i64 2, .int .i64 2] 3)
  have x1 := Box.new (W.alloc (.cells #[.string ⟨#[98]⟩] 9)) 3 #[.int .i64 2, .int .i64 2]
  simp only [World.size_alloc] at x1
  exact ⟨VS.of_box x0, VS.is_int (l := [2, 2]) (VS.of_box x1), by simp, by simp, by simp [maxLen], by simp [maxLen], (fun e => by cases e), (fun e => by cases e)⟩
theorem plain_lit (W : World) : Calls Tryd.prog 17 #[.agg #[.slice (some ⟨W.heap.size, 0, none⟩) 1 1, .slice (some ⟨W.heap.size + 1, 0, none⟩) 2 2]] ((W.alloc (.cells #[.string ⟨#[98]⟩] 9)).alloc (.cells #[.int .i64 2, .int .i64 2] 3)) fun e w' => ∃ n : Mp, e = .returned (.tuple #[.agg #[.slice n.A n.cs.length n.ca, .slice n.O n.os.length n.co], .int .i64 0]) ∧ n.cs = [] ∧ n.os = [2] ∧ MO w' W.heap.size n ∧ Below W.heap.size W w' := by
  have hb := ((Below.refl W.heap.size W).alloc (Nat.le_refl _) (.cells #[.string ⟨#[98]⟩] 9)).alloc (by simp) (.cells #[.int .i64 2, .int .i64 2] 3)
  have h := shplain_any _ _ (MS.lit2 W) (by simp)
  rw [show plainV (⟨some ⟨W.heap.size, 0, none⟩, 1, [⟨#[98]⟩], some ⟨W.heap.size + 1, 0, none⟩, 2, [2, 2]⟩ : Mp).cs (⟨some ⟨W.heap.size, 0, none⟩, 1, [⟨#[98]⟩], some ⟨W.heap.size + 1, 0, none⟩, 2, [2, 2]⟩ : Mp).os = (([], [2]), 0) from plainV_lit] at h
  exact h.mono fun e w' ⟨n, h1, h2, h3, h4, h5⟩ => ⟨n, h1, h2, h3, h4.mono hb.size, hb.trans (h5.mono hb.size)⟩

set_option maxHeartbeats 1000000 in
set_option maxRecDepth 100000 in
theorem stells_bad (a b : Mp) (A : Option Addr) (c : Nat) (l : List Pr) (n : Int) (w : World) (ha : MS w a) (hb : MS w b) (hA : SV w A c l) (hl3 : l.length < 4611686018427387904) (hc : chkM a.cs a.os ≠ 0) :
    Calls Tryd.prog 4 #[.agg #[.slice a.A a.cs.length a.ca, .slice a.O a.os.length a.co], .agg #[.slice b.A b.cs.length b.ca, .slice b.O b.os.length b.co], .slice A l.length c, .int .i64 n] w fun e w' => e = .returned (.bool true) ∧ Below w.heap.size w w' := by
  have hla : a.os.length ≤ 9223372036854775807 := by have := ha.lo; have := ha.mo; unfold maxLen at this; omega
  have hlb : b.os.length ≤ 9223372036854775807 := by have := hb.lo; have := hb.mo; unfold maxLen at this; omega
  have HP := hideP (fun (W : World) (h : MS W a) => shplain_any a W h hla)
  have HS := hideP (fun (W : World) (h : MS W a) (h' : MS W b) => shsame_any a b W h h' hla hlb)
  have HT := hideP (fun (W : World) (h : MS W a) (h' : SV W A c l) => shpart_any a A c l n W h h'.ps hla hl3)
  have HRA := hideP (fun (W : World) (h : MS W a) => rmap_any a W h hla)
  have HRB := hideP (fun (W : World) (h : MS W b) => rmap_any b W h hlb)
  rw [plainV_bad hc] at HP
  rw [sameV_bad1 hc] at HS
  rw [partV_bad hc] at HT
  have d0 : (chkM a.cs a.os != 0) = true := by simp [hc]
  have d1 : (chkM a.cs a.os == 0) = false := by simp [hc]
  clear hc
  generalize chkM a.cs a.os = q at HP HS HT HRA d0 d1
  have dq : (q != q) = false := by simp
  have dq' : (q == q) = true := by simp
  have b0 := ((Below.refl w.heap.size w).alloc (Nat.le_refl _) (.cells #[.slice a.A a.cs.length a.ca, .slice a.O a.os.length a.co] 25)).alloc (by simp) (.cells #[.slice b.A b.cs.length b.ca, .slice b.O b.os.length b.co] 25)
  have x0 := (Box.new w 25 #[.slice a.A a.cs.length a.ca, .slice a.O a.os.length a.co]).alloc (.cells #[.slice b.A b.cs.length b.ca, .slice b.O b.os.length b.co] 25)
  have x1 := Box.new (w.alloc (.cells #[.slice a.A a.cs.length a.ca, .slice a.O a.os.length a.co] 25)) 25 #[.slice b.A b.cs.length b.ca, .slice b.O b.os.length b.co]
  simp only [World.size_alloc] at x1
  have hMA : MH w w.heap.size a _ := ⟨x0, ha.below b0, b0⟩
  have hMB : MH w (w.heap.size + 1) b _ := ⟨x1, hb.below b0, b0⟩
  have hsl := hA.below b0
  clear b0 x0 x1
  go_enter Tryd.func4, Tryd.ntmps4
  obtain ⟨z1, z2⟩ := hMA.c
  go_wp2_with fail
  generalize (w.alloc _).alloc _ = w1 at hMA hMB hsl z1 z2 ⊢
  generalize hg : w.heap.size = g at hMA hMB z1 z2 ⊢
  clear hg
  refine (HP.out _ hMA.ms).mono ?_
  rintro e w2 ⟨p, rfl, hp1, hp2, hpo, hb2⟩
  dsimp only
  have hMP := MX.mk_ (hpo.mono hMA.be.size) (hMA.below hb2).be
  have hal := (Below.refl w2.heap.size w2).alloc (Nat.le_refl _) (.cells #[.slice p.A p.cs.length p.ca, .slice p.O p.os.length p.co] 25)
  replace hMA := (hMA.below hb2).below hal
  replace hMB := (hMB.below hb2).below hal
  replace hsl := (hsl.below hb2).below hal
  have HP1 := hideP hp1
  have HP2 := hideP hp2
  clear hb2 hal z1 z2 hp1 hp2 hpo HP
  obtain ⟨z1, z2⟩ := hMA.c
  obtain ⟨y1, y2⟩ := hMB.c
  go_wp2_with fail
  generalize w2.alloc _ = w3 at hMA hMB hsl hMP z1 z2 y1 y2 ⊢
  generalize w2.heap.size = gp at hMP ⊢
  refine (HS.out _ hMA.ms hMB.ms).mono ?_
  rintro e w4 ⟨rfl, hb4⟩
  dsimp only
  replace hMA := hMA.below hb4
  replace hMB := hMB.below hb4
  replace hMP := hMP.below hb4
  replace hsl := hsl.below hb4
  clear hb4 z1 z2 y1 y2 HS
  obtain ⟨z1, z2⟩ := hMA.c
  go_wp2_with fail
  refine (HT.out _ hMA.ms hsl).mono ?_
  rintro e w5 ⟨X, cx, rfl, hov, hb5⟩
  dsimp only
  have hT : TA w g a b gp p A c l X cx _ w5 := ⟨hMA.below hb5, hMB.below hb5, hMP.below hb5, hsl.below hb5, hov.sv⟩
  clear hb5 z1 z2 HT hMA hMB hMP hsl hov
  go_wp2_with fail
  refine (plain_lit w5).mono ?_
  rintro e w6 ⟨y, rfl, hy1, hy2, hyo, hb6⟩
  dsimp only
  have hY := MX.mk_ (w := w) (hyo.mono hT.ma.be.size) (hT.below hb6).ma.be
  replace hT := (hT.below hb6).alloc (o := .cells #[.slice y.A y.cs.length y.ca, .slice y.O y.os.length y.co] 25)
  have HY := hideP (fun (W : World) (s : Nat) (hs : s = W.heap.size) (h : MX w w6.heap.size y W) => show Calls Tryd.prog 11 #[.agg #[.slice y.A y.cs.length y.ca, .slice y.O y.os.length y.co], .agg #[.slice none 0 0, .slice (some ⟨s, 0, none⟩) 1 1]] (W.alloc (.cells #[.int .i64 2] 3)) fun e w' => e = .returned (.bool true) ∧ Below (W.alloc (.cells #[.int .i64 2] 3)).heap.size (W.alloc (.cells #[.int .i64 2] 3)) w' from by
    subst hs
    exact same_eq y ⟨none, 0, [], some ⟨W.heap.size, 0, none⟩, 1, [2]⟩ (W.alloc (.cells #[.int .i64 2] 3)) h.alloc.ms (MS.one W) hy1 hy2)
  have hs7 := hideP (show w6.heap.size + 1 = (w6.alloc (.cells #[.slice y.A y.cs.length y.ca, .slice y.O y.os.length y.co] 25)).heap.size by simp)
  clear hb6 hy1 hy2 hyo
  obtain ⟨y1, y2⟩ := hY.c
  go_wp2_with fail
  generalize w6.alloc _ = w7 at hT hY y1 y2 hs7 ⊢
  generalize w6.heap.size = gy at hY HY y1 y2 hs7 ⊢
  refine (HY.out w7 (gy + 1) hs7.out hY).mono ?_
  rintro e w8 ⟨rfl, hb8⟩
  dsimp only
  replace hT := hT.alloc.below hb8
  clear hb8 hY HY y1 y2 hs7
  obtain ⟨z1, z2⟩ := hT.ma.c
  go_wp2_with fail
  refine (HRA.out _ hT.ma.ms).mono ?_
  rintro e w9 ⟨rfl, hb9⟩
  dsimp only
  replace hT := hT.below hb9
  clear hb9 z1 z2 HRA
  have HSC := hideP (fun (W : World) (h : MS W p) => same_none p W h HP1.out HP2.out)
  obtain ⟨y1, y2⟩ := hT.mp.c
  go_wp2_with fail
  refine (HSC.out _ hT.mp.ms).mono ?_
  rintro e w10 ⟨rfl, hb10⟩
  dsimp only
  have hbe := (hT.below hb10).ma.be
  go_wp2_with fail
  go_ret
  exact ⟨rfl, hbe⟩
end Go.Proofs.YtoelnhnbefkfoaaDoor

set_option linter.unusedVariables false
set_option linter.unusedSimpArgs false
namespace Go.Proofs.YtoelnhnbefkfoaaDoor
open Go.RowKit

theorem ptL_val {cs : List ByteArray} {os : List Int} {l : List Pr} (h : Ok l) (n : Int) : valOf (ptL cs os n l) = ownF cs os n (valOf l) := by
  funext k
  have e := valOf_filter h.srt (fun k => decide (whV cs os k = n)) k
  unfold ptL ownF
  simpa using e
theorem same_v (a b : Mp) (W : World) (ha : MS W a) (hb : MS W b) (v : Bool) (hv : (decide (a.cs = b.cs) && decide (a.os = b.os)) = v) : Calls Tryd.prog 11 #[.agg #[.slice a.A a.cs.length a.ca, .slice a.O a.os.length a.co], .agg #[.slice b.A b.cs.length b.ca, .slice b.O b.os.length b.co]] W fun e w' => e = .returned (.bool v) ∧ Below W.heap.size W w' := by
  subst hv
  exact samemap_any a b W ha hb
end Go.Proofs.YtoelnhnbefkfoaaDoor

set_option linter.unusedVariables false
set_option linter.unusedSimpArgs false
namespace Go.Proofs.YtoelnhnbefkfoaaDoor
open Go.RowKit

set_option maxHeartbeats 1000000 in
set_option maxRecDepth 100000 in
theorem stells_bad2 (a b : Mp) (A : Option Addr) (c : Nat) (l : List Pr) (n : Int) (w : World) (ha : MS w a) (hb : MS w b) (hA : SV w A c l) (hl3 : l.length < 4611686018427387904) (hc : chkM a.cs a.os = 0) (hcb : chkM b.cs b.os ≠ 0) :
    Calls Tryd.prog 4 #[.agg #[.slice a.A a.cs.length a.ca, .slice a.O a.os.length a.co], .agg #[.slice b.A b.cs.length b.ca, .slice b.O b.os.length b.co], .slice A l.length c, .int .i64 n] w fun e w' => e = .returned (.bool true) ∧ Below w.heap.size w w' := by
  have hla : a.os.length ≤ 9223372036854775807 := by have := ha.lo; have := ha.mo; unfold maxLen at this; omega
  have hlb : b.os.length ≤ 9223372036854775807 := by have := hb.lo; have := hb.mo; unfold maxLen at this; omega
  have HP := hideP (fun (W : World) (h : MS W a) => shplain_any a W h hla)
  have HS := hideP (fun (W : World) (h : MS W a) (h' : MS W b) => shsame_any a b W h h' hla hlb)
  have HT := hideP (fun (W : World) (h : MS W a) (h' : SV W A c l) => shpart_any a A c l n W h h'.ps hla hl3)
  have HRA := hideP (fun (W : World) (h : MS W a) => rmap_any a W h hla)
  have HRB := hideP (fun (W : World) (h : MS W b) => rmap_any b W h hlb)
  have hok := chkM_ok.1 hc
  have HC := hideP hc
  rw [plainV_ok hc] at HP
  rw [hc] at HRA
  have HRPA := hideP (fun (W : World) (h : MS W a) => rplainM a.cs.length a W h rfl hok.len hok.few)
  have HOK := hideP hok
  have HST := hideP (fun (W : World) (h : PS W W.heap.size A l) => rstore_any A c l W h hl3)
  clear hok
  obtain ⟨rt, hrt⟩ : ∃ rt, rt = partV a.cs a.os l n := ⟨_, rfl⟩
  rw [← hrt] at HT
  have HRT := hideP hrt
  clear hrt
  rw [sameV_bad2 hc hcb] at HS
  have e0 : (chkM b.cs b.os != 0) = true := by simp [hcb]
  clear hc hcb
  generalize chkM b.cs b.os = qb at HS HRB e0
  have e1 : (qb != qb) = false := by simp
  have b0 := ((Below.refl w.heap.size w).alloc (Nat.le_refl _) (.cells #[.slice a.A a.cs.length a.ca, .slice a.O a.os.length a.co] 25)).alloc (by simp) (.cells #[.slice b.A b.cs.length b.ca, .slice b.O b.os.length b.co] 25)
  have x0 := (Box.new w 25 #[.slice a.A a.cs.length a.ca, .slice a.O a.os.length a.co]).alloc (.cells #[.slice b.A b.cs.length b.ca, .slice b.O b.os.length b.co] 25)
  have x1 := Box.new (w.alloc (.cells #[.slice a.A a.cs.length a.ca, .slice a.O a.os.length a.co] 25)) 25 #[.slice b.A b.cs.length b.ca, .slice b.O b.os.length b.co]
  simp only [World.size_alloc] at x1
  have hMA : MH w w.heap.size a _ := ⟨x0, ha.below b0, b0⟩
  have hMB : MH w (w.heap.size + 1) b _ := ⟨x1, hb.below b0, b0⟩
  have hsl := hA.below b0
  clear b0 x0 x1
  go_enter Tryd.func4, Tryd.ntmps4
  obtain ⟨z1, z2⟩ := hMA.c
  go_wp2_with fail
  generalize (w.alloc _).alloc _ = w1 at hMA hMB hsl z1 z2 ⊢
  generalize hg : w.heap.size = g at hMA hMB z1 z2 ⊢
  clear hg
  refine (HP.out _ hMA.ms).mono ?_
  rintro e w2 ⟨p, rfl, hp1, hp2, hpo, hb2⟩
  dsimp only
  have hMP := MX.mk_ (hpo.mono hMA.be.size) (hMA.below hb2).be
  have hal := (Below.refl w2.heap.size w2).alloc (Nat.le_refl _) (.cells #[.slice p.A p.cs.length p.ca, .slice p.O p.os.length p.co] 25)
  replace hMA := (hMA.below hb2).below hal
  replace hMB := (hMB.below hb2).below hal
  replace hsl := (hsl.below hb2).below hal
  have HP1 := hideP hp1
  have HP2 := hideP hp2
  clear hb2 hal z1 z2 hp1 hp2 hpo HP
  obtain ⟨z1, z2⟩ := hMA.c
  obtain ⟨y1, y2⟩ := hMB.c
  go_wp2_with fail
  generalize w2.alloc _ = w3 at hMA hMB hsl hMP z1 z2 y1 y2 ⊢
  generalize w2.heap.size = gp at hMP ⊢
  refine (HS.out _ hMA.ms hMB.ms).mono ?_
  rintro e w4 ⟨rfl, hb4⟩
  dsimp only
  replace hMA := hMA.below hb4
  replace hMB := hMB.below hb4
  replace hMP := hMP.below hb4
  replace hsl := hsl.below hb4
  clear hb4 z1 z2 y1 y2 HS
  obtain ⟨z1, z2⟩ := hMA.c
  go_wp2_with fail
  refine (HT.out _ hMA.ms hsl).mono ?_
  rintro e w5 ⟨X, cx, rfl, hov, hb5⟩
  dsimp only
  have hT : TA w g a b gp p A c l X cx _ w5 := ⟨hMA.below hb5, hMB.below hb5, hMP.below hb5, hsl.below hb5, hov.sv⟩
  clear hb5 z1 z2 HT hMA hMB hMP hsl hov
  go_wp2_with fail
  refine (plain_lit w5).mono ?_
  rintro e w6 ⟨y, rfl, hy1, hy2, hyo, hb6⟩
  dsimp only
  have hY := MX.mk_ (w := w) (hyo.mono hT.ma.be.size) (hT.below hb6).ma.be
  replace hT := (hT.below hb6).alloc (o := .cells #[.slice y.A y.cs.length y.ca, .slice y.O y.os.length y.co] 25)
  have HY := hideP (fun (W : World) (s : Nat) (hs : s = W.heap.size) (h : MX w w6.heap.size y W) => show Calls Tryd.prog 11 #[.agg #[.slice y.A y.cs.length y.ca, .slice y.O y.os.length y.co], .agg #[.slice none 0 0, .slice (some ⟨s, 0, none⟩) 1 1]] (W.alloc (.cells #[.int .i64 2] 3)) fun e w' => e = .returned (.bool true) ∧ Below (W.alloc (.cells #[.int .i64 2] 3)).heap.size (W.alloc (.cells #[.int .i64 2] 3)) w' from by
    subst hs
    exact same_eq y ⟨none, 0, [], some ⟨W.heap.size, 0, none⟩, 1, [2]⟩ (W.alloc (.cells #[.int .i64 2] 3)) h.alloc.ms (MS.one W) hy1 hy2)
  have hs7 := hideP (show w6.heap.size + 1 = (w6.alloc (.cells #[.slice y.A y.cs.length y.ca, .slice y.O y.os.length y.co] 25)).heap.size by simp)
  clear hb6 hy1 hy2 hyo
  obtain ⟨y1, y2⟩ := hY.c
  go_wp2_with fail
  generalize w6.alloc _ = w7 at hT hY y1 y2 hs7 ⊢
  generalize w6.heap.size = gy at hY HY y1 y2 hs7 ⊢
  refine (HY.out w7 (gy + 1) hs7.out hY).mono ?_
  rintro e w8 ⟨rfl, hb8⟩
  dsimp only
  replace hT := hT.alloc.below hb8
  clear hb8 hY HY y1 y2 hs7
  obtain ⟨z1, z2⟩ := hT.ma.c
  go_wp2_with fail
  refine (HRA.out _ hT.ma.ms).mono ?_
  rintro e w9 ⟨rfl, hb9⟩
  dsimp only
  replace hT := hT.below hb9
  clear hb9 z1 z2 HRA
  go_wp2_with fail
  have HSA := hideP (fun (w' : World) (h : TA w g a b gp p A c l X cx rt.1 w') => show w'.cell? ⟨gp, 0, none⟩ = some (.slice p.A p.cs.length p.ca) ∧ w'.cell? ⟨gp, 1, none⟩ = some (.slice p.O p.os.length p.co) ∧ w'.cell? ⟨g, 0, none⟩ = some (.slice a.A a.cs.length a.ca) ∧ w'.cell? ⟨g, 1, none⟩ = some (.slice a.O a.os.length a.co) from ⟨h.mp.c.1, h.mp.c.2, h.ma.c.1, h.ma.c.2⟩)
  replace hT := hT.drew
  go_region_held3 (fun w' => w'.cell? ⟨gp, 0, none⟩ = some (.slice p.A p.cs.length p.ca) ∧ w'.cell? ⟨gp, 1, none⟩ = some (.slice p.O p.os.length p.co) ∧ w'.cell? ⟨g, 0, none⟩ = some (.slice a.A a.cs.length a.ca) ∧ w'.cell? ⟨g, 1, none⟩ = some (.slice a.O a.os.length a.co)) (first | (refine HSA.out _ ?_; with_reducible exact hT)) (first
    | (go_at_call 20; refine (HRPA.out _ hT.ma.ms).mono ?_; rintro e wn ⟨k, rfl, hk1, hk2, hpm, hbn⟩; replace hT := hT.below hbn; have hks := hpm.ms hT.ma.ms; have HSK := hideP (same_eq p k wn hT.mp.ms hks (by rw [HP1.out, hk1]) (by rw [HP2.out, hk2])); clear hk1 hk2 hpm hbn hks; dsimp only)
    | (go_at_call 11; refine HSK.out.mono ?_; rintro e wo ⟨rfl, hbo⟩; replace hT := hT.below hbo; clear hbo; dsimp only))
  clear HSK HP1 HP2 HSA
  obtain ⟨y1, y2⟩ := hT.mb.c
  go_wp2_with fail
  refine (HRB.out _ hT.mb.ms).mono ?_
  rintro e w11 ⟨rfl, hb11⟩
  dsimp only
  replace hT := hT.below hb11
  clear hb11 y1 y2 HRB
  clear HRPA
  go_wp2_with fail
  refine (HST.out _ hT.sl.ps).mono ?_
  rintro e w12 ⟨rfl, hb12⟩
  dsimp only
  replace hT := hT.below hb12
  clear hb12 HST e0 e1
  by_cases hk : chk ByteArray.empty l = 0
  · by_cases hn : ownB n = true
    · have hrt : rt = (ptL a.cs a.os n l, 0) := by rw [HRT.out]; exact partV_ok HC.out hk hn
      subst hrt
      rw [hk]
      have hol := chk_ok.1 hk
      have hsm := hol.small
      have h03 : 0 ≤ n ∧ n ≤ 3 := by simpa [ownB] using hn
      have n0 : ¬ n < 0 := by omega
      have n3 : ¬ 3 < n := by omega
      have n4 : ¬ n > 3 := n3
      have HOF := hideP (fun (W : World) (h : SV W A c l) => of_mv A c l W h hol)
      have HOW := hideP (fun (W : World) (q : Nat) (h : MV W q l.length (valOf l)) (h' : MS W a) => rowned_any a q l.length (valOf l) n W h (by omega) h' HOK.out)
      have HLI := hideP (fun (W : World) (q : Nat) (h : MV W q l.length (ownF a.cs a.os n (valOf l))) => list_mv q l.length _ (ptL a.cs a.os n l) W h (by omega) (ptL_ok hol n) (ptL_val hol n))
      have hpl : (ptL a.cs a.os n l).length < 4611686018427387904 := Nat.lt_of_le_of_lt (List.length_filter_le _ _) hl3
      have HEQ := hideP (fun (W : World) (Y : Option Addr) (cy : Nat) (h : PS W W.heap.size X (ptL a.cs a.os n l)) (h' : PS W W.heap.size Y (ptL a.cs a.os n l)) => equal_same X Y cx cy _ W h h' hpl)
      dsimp only at hT ⊢
      clear hk hn hol hsm h03 HRT HC HOK hpl
      have HSC := hideP (fun (w' : World) (h : TA w g a b gp p A c l X cx (ptL a.cs a.os n l) w') => show w'.cell? ⟨g, 0, none⟩ = some (.slice a.A a.cs.length a.ca) ∧ w'.cell? ⟨g, 1, none⟩ = some (.slice a.O a.os.length a.co) from ⟨h.ma.c.1, h.ma.c.2⟩)
      go_wp2_with fail
      replace hT := hT.drew
      go_region_held3 (fun w' => w'.cell? ⟨g, 0, none⟩ = some (.slice a.A a.cs.length a.ca) ∧ w'.cell? ⟨g, 1, none⟩ = some (.slice a.O a.os.length a.co)) (first | (refine HSC.out _ ?_; with_reducible exact hT)) (first
        | (go_at_call 25; refine (HOF.out _ hT.sl).mono ?_; rintro e wq ⟨bm, rfl, hmv, hbq⟩; replace hT := hT.below hbq; clear hbq; dsimp only)
        | (go_at_call 24; refine (HOW.out _ bm hmv hT.ma.ms).mono ?_; rintro e ws ⟨bo, rfl, hmo, hbs⟩; replace hT := hT.below hbs; clear hbs hmv; dsimp only)
        | (go_at_call 23; refine (HLI.out _ bo hmo).mono ?_; rintro e wt ⟨Y, cy, rfl, hsy, hbt⟩; replace hT := hT.below hbt; clear hbt hmo; dsimp only)
        | (go_at_call 22; refine (HEQ.out _ Y cy hT.sx.ps hsy.ps).mono ?_; rintro e wu ⟨rfl, hbu⟩; replace hT := hT.below hbu; clear hbu hsy; dsimp only))
      have hbe := hT.ma.be
      go_wp2_with fail
      go_ret
      exact ⟨rfl, hbe⟩
    · have hn' : ownB n = false := by simpa using hn
      have hrt : rt = ([], 1) := by rw [HRT.out]; exact partV_arg HC.out hk hn'
      subst hrt
      rw [hk]
      have hbe := hT.ma.be
      dsimp only [List.length_nil]
      clear hk hn HRT HC HOK
      by_cases n0 : n < 0
      · clear hn'
        go_wp2_with fail
        go_ret
        exact ⟨rfl, hbe⟩
      · have n3 : 3 < n := by simp [ownB] at hn'; omega
        have n4 : n > 3 := n3
        clear hn'
        go_wp2_with fail
        go_ret
        exact ⟨rfl, hbe⟩
  · have hrt : rt = ([], chk ByteArray.empty l) := by rw [HRT.out]; exact partV_bad2 HC.out hk
    subst hrt
    have hbe := hT.ma.be
    dsimp only [List.length_nil]
    have d0 : (chk ByteArray.empty l != 0) = true := by simp [hk]
    have d1 : (chk ByteArray.empty l == 0) = false := by simp [hk]
    clear HRT HC HOK hk hT
    generalize chk ByteArray.empty l = q at d0 d1 ⊢
    have dq : (q == q) = true := by simp
    go_wp2_with fail
    go_ret
    exact ⟨rfl, hbe⟩
end Go.Proofs.YtoelnhnbefkfoaaDoor

set_option linter.unusedVariables false
set_option linter.unusedSimpArgs false
namespace Go.Proofs.YtoelnhnbefkfoaaDoor
open Go.RowKit

set_option maxHeartbeats 4000000 in
set_option maxRecDepth 100000 in
theorem stells_ok (a b : Mp) (A : Option Addr) (c : Nat) (l : List Pr) (n : Int) (w : World) (ha : MS w a) (hb : MS w b) (hA : SV w A c l) (hl3 : l.length < 4611686018427387904) (hc : chkM a.cs a.os = 0) (hcb : chkM b.cs b.os = 0) :
    Calls Tryd.prog 4 #[.agg #[.slice a.A a.cs.length a.ca, .slice a.O a.os.length a.co], .agg #[.slice b.A b.cs.length b.ca, .slice b.O b.os.length b.co], .slice A l.length c, .int .i64 n] w fun e w' => e = .returned (.bool true) ∧ Below w.heap.size w w' := by
  have hla : a.os.length ≤ 9223372036854775807 := by have := ha.lo; have := ha.mo; unfold maxLen at this; omega
  have hlb : b.os.length ≤ 9223372036854775807 := by have := hb.lo; have := hb.mo; unfold maxLen at this; omega
  have HP := hideP (fun (W : World) (h : MS W a) => shplain_any a W h hla)
  have HS := hideP (fun (W : World) (h : MS W a) (h' : MS W b) => shsame_any a b W h h' hla hlb)
  have HT := hideP (fun (W : World) (h : MS W a) (h' : SV W A c l) => shpart_any a A c l n W h h'.ps hla hl3)
  have HRA := hideP (fun (W : World) (h : MS W a) => rmap_any a W h hla)
  have HRB := hideP (fun (W : World) (h : MS W b) => rmap_any b W h hlb)
  have hok := chkM_ok.1 hc
  have HC := hideP hc
  rw [plainV_ok hc] at HP
  rw [hc] at HRA
  have HRPA := hideP (fun (W : World) (h : MS W a) => rplainM a.cs.length a W h rfl hok.len hok.few)
  have HOK := hideP hok
  have HST := hideP (fun (W : World) (h : PS W W.heap.size A l) => rstore_any A c l W h hl3)
  clear hok
  obtain ⟨rt, hrt⟩ : ∃ rt, rt = partV a.cs a.os l n := ⟨_, rfl⟩
  rw [← hrt] at HT
  have HRT := hideP hrt
  clear hrt
  rw [sameV_ok hc hcb] at HS
  rw [hcb] at HRB
  have hokb := chkM_ok.1 hcb
  have HRA2 := hideP (fun (W : World) (x : Value) (hx : x = .agg #[.slice a.A a.cs.length a.ca, .slice a.O a.os.length a.co]) (h : MS W a) => show Calls Tryd.prog 20 #[x] W (RetPl W a) from hx ▸ rplainM a.cs.length a W h rfl HOK.out.len HOK.out.few)
  have HRB2 := hideP (fun (W : World) (x : Value) (hx : x = .agg #[.slice b.A b.cs.length b.ca, .slice b.O b.os.length b.co]) (h : MS W b) => show Calls Tryd.prog 20 #[x] W (RetPl W b) from hx ▸ rplainM b.cs.length b W h rfl hokb.len hokb.few)
  clear hc hcb hokb
  obtain ⟨v, hv⟩ : ∃ v, (decide ((plN a.cs a.os a.cs.length).1 = (plN b.cs b.os b.cs.length).1) && decide ((plN a.cs a.os a.cs.length).2 = (plN b.cs b.os b.cs.length).2)) = v := ⟨_, rfl⟩
  rw [hv] at HS
  have HV := hideP hv
  clear hv
  have e1 : (v != v) = false := by simp
  have b0 := ((Below.refl w.heap.size w).alloc (Nat.le_refl _) (.cells #[.slice a.A a.cs.length a.ca, .slice a.O a.os.length a.co] 25)).alloc (by simp) (.cells #[.slice b.A b.cs.length b.ca, .slice b.O b.os.length b.co] 25)
  have x0 := (Box.new w 25 #[.slice a.A a.cs.length a.ca, .slice a.O a.os.length a.co]).alloc (.cells #[.slice b.A b.cs.length b.ca, .slice b.O b.os.length b.co] 25)
  have x1 := Box.new (w.alloc (.cells #[.slice a.A a.cs.length a.ca, .slice a.O a.os.length a.co] 25)) 25 #[.slice b.A b.cs.length b.ca, .slice b.O b.os.length b.co]
  simp only [World.size_alloc] at x1
  have hMA : MH w w.heap.size a _ := ⟨x0, ha.below b0, b0⟩
  have hMB : MH w (w.heap.size + 1) b _ := ⟨x1, hb.below b0, b0⟩
  have hsl := hA.below b0
  clear b0 x0 x1
  go_enter Tryd.func4, Tryd.ntmps4
  obtain ⟨z1, z2⟩ := hMA.c
  go_wp2_with fail
  generalize (w.alloc _).alloc _ = w1 at hMA hMB hsl z1 z2 ⊢
  generalize hg : w.heap.size = g at hMA hMB z1 z2 ⊢
  clear hg
  refine (HP.out _ hMA.ms).mono ?_
  rintro e w2 ⟨p, rfl, hp1, hp2, hpo, hb2⟩
  dsimp only
  have hMP := MX.mk_ (hpo.mono hMA.be.size) (hMA.below hb2).be
  have hal := (Below.refl w2.heap.size w2).alloc (Nat.le_refl _) (.cells #[.slice p.A p.cs.length p.ca, .slice p.O p.os.length p.co] 25)
  replace hMA := (hMA.below hb2).below hal
  replace hMB := (hMB.below hb2).below hal
  replace hsl := (hsl.below hb2).below hal
  have HP1 := hideP hp1
  have HP2 := hideP hp2
  clear hb2 hal z1 z2 hp1 hp2 hpo HP
  obtain ⟨z1, z2⟩ := hMA.c
  obtain ⟨y1, y2⟩ := hMB.c
  go_wp2_with fail
  generalize w2.alloc _ = w3 at hMA hMB hsl hMP z1 z2 y1 y2 ⊢
  generalize w2.heap.size = gp at hMP ⊢
  refine (HS.out _ hMA.ms hMB.ms).mono ?_
  rintro e w4 ⟨rfl, hb4⟩
  dsimp only
  replace hMA := hMA.below hb4
  replace hMB := hMB.below hb4
  replace hMP := hMP.below hb4
  replace hsl := hsl.below hb4
  clear hb4 z1 z2 y1 y2 HS
  obtain ⟨z1, z2⟩ := hMA.c
  go_wp2_with fail
  refine (HT.out _ hMA.ms hsl).mono ?_
  rintro e w5 ⟨X, cx, rfl, hov, hb5⟩
  dsimp only
  have hT : TA w g a b gp p A c l X cx _ w5 := ⟨hMA.below hb5, hMB.below hb5, hMP.below hb5, hsl.below hb5, hov.sv⟩
  clear hb5 z1 z2 HT hMA hMB hMP hsl hov
  go_wp2_with fail
  refine (plain_lit w5).mono ?_
  rintro e w6 ⟨y, rfl, hy1, hy2, hyo, hb6⟩
  dsimp only
  have hY := MX.mk_ (w := w) (hyo.mono hT.ma.be.size) (hT.below hb6).ma.be
  replace hT := (hT.below hb6).alloc (o := .cells #[.slice y.A y.cs.length y.ca, .slice y.O y.os.length y.co] 25)
  have HY := hideP (fun (W : World) (s : Nat) (hs : s = W.heap.size) (h : MX w w6.heap.size y W) => show Calls Tryd.prog 11 #[.agg #[.slice y.A y.cs.length y.ca, .slice y.O y.os.length y.co], .agg #[.slice none 0 0, .slice (some ⟨s, 0, none⟩) 1 1]] (W.alloc (.cells #[.int .i64 2] 3)) fun e w' => e = .returned (.bool true) ∧ Below (W.alloc (.cells #[.int .i64 2] 3)).heap.size (W.alloc (.cells #[.int .i64 2] 3)) w' from by
    subst hs
    exact same_eq y ⟨none, 0, [], some ⟨W.heap.size, 0, none⟩, 1, [2]⟩ (W.alloc (.cells #[.int .i64 2] 3)) h.alloc.ms (MS.one W) hy1 hy2)
  have hs7 := hideP (show w6.heap.size + 1 = (w6.alloc (.cells #[.slice y.A y.cs.length y.ca, .slice y.O y.os.length y.co] 25)).heap.size by simp)
  clear hb6 hy1 hy2 hyo
  obtain ⟨y1, y2⟩ := hY.c
  go_wp2_with fail
  generalize w6.alloc _ = w7 at hT hY y1 y2 hs7 ⊢
  generalize w6.heap.size = gy at hY HY y1 y2 hs7 ⊢
  refine (HY.out w7 (gy + 1) hs7.out hY).mono ?_
  rintro e w8 ⟨rfl, hb8⟩
  dsimp only
  replace hT := hT.alloc.below hb8
  clear hb8 hY HY y1 y2 hs7
  obtain ⟨z1, z2⟩ := hT.ma.c
  go_wp2_with fail
  refine (HRA.out _ hT.ma.ms).mono ?_
  rintro e w9 ⟨rfl, hb9⟩
  dsimp only
  replace hT := hT.below hb9
  clear hb9 z1 z2 HRA
  go_wp2_with fail
  have HSA := hideP (fun (w' : World) (h : TA w g a b gp p A c l X cx rt.1 w') => show w'.cell? ⟨gp, 0, none⟩ = some (.slice p.A p.cs.length p.ca) ∧ w'.cell? ⟨gp, 1, none⟩ = some (.slice p.O p.os.length p.co) ∧ w'.cell? ⟨g, 0, none⟩ = some (.slice a.A a.cs.length a.ca) ∧ w'.cell? ⟨g, 1, none⟩ = some (.slice a.O a.os.length a.co) from ⟨h.mp.c.1, h.mp.c.2, h.ma.c.1, h.ma.c.2⟩)
  replace hT := hT.drew
  go_region_held3 (fun w' => w'.cell? ⟨gp, 0, none⟩ = some (.slice p.A p.cs.length p.ca) ∧ w'.cell? ⟨gp, 1, none⟩ = some (.slice p.O p.os.length p.co) ∧ w'.cell? ⟨g, 0, none⟩ = some (.slice a.A a.cs.length a.ca) ∧ w'.cell? ⟨g, 1, none⟩ = some (.slice a.O a.os.length a.co)) (first | (refine HSA.out _ ?_; with_reducible exact hT)) (first
    | (go_at_call 20; refine (HRPA.out _ hT.ma.ms).mono ?_; rintro e wn ⟨k, rfl, hk1, hk2, hpm, hbn⟩; replace hT := hT.below hbn; have hks := hpm.ms hT.ma.ms; have HSK := hideP (same_eq p k wn hT.mp.ms hks (by rw [HP1.out, hk1]) (by rw [HP2.out, hk2])); clear hk1 hk2 hpm hbn hks; dsimp only)
    | (go_at_call 11; refine HSK.out.mono ?_; rintro e wo ⟨rfl, hbo⟩; replace hT := hT.below hbo; clear hbo; dsimp only))
  clear HSK HP1 HP2 HSA
  obtain ⟨y1, y2⟩ := hT.mb.c
  go_wp2_with fail
  refine (HRB.out _ hT.mb.ms).mono ?_
  rintro e w11 ⟨rfl, hb11⟩
  dsimp only
  replace hT := hT.below hb11
  clear hb11 y1 y2 HRB
  go_wp2_with fail
  have HSB := hideP (fun (w' : World) (h : TA w g a b gp p A c l X cx rt.1 w') => show w'.cell? ⟨g, 0, none⟩ = some (.slice a.A a.cs.length a.ca) ∧ w'.cell? ⟨g, 1, none⟩ = some (.slice a.O a.os.length a.co) ∧ w'.cell? ⟨g + 1, 0, none⟩ = some (.slice b.A b.cs.length b.ca) ∧ w'.cell? ⟨g + 1, 1, none⟩ = some (.slice b.O b.os.length b.co) from ⟨h.ma.c.1, h.ma.c.2, h.mb.c.1, h.mb.c.2⟩)
  replace hT := hT.drew
  go_region_held3 (fun w' => w'.cell? ⟨g, 0, none⟩ = some (.slice a.A a.cs.length a.ca) ∧ w'.cell? ⟨g, 1, none⟩ = some (.slice a.O a.os.length a.co) ∧ w'.cell? ⟨g + 1, 0, none⟩ = some (.slice b.A b.cs.length b.ca) ∧ w'.cell? ⟨g + 1, 1, none⟩ = some (.slice b.O b.os.length b.co)) (first | (refine HSB.out _ ?_; with_reducible exact hT)) (first
    | (go_at_call 20; refine (HRA2.out _ _ ?_ hT.ma.ms).mono ?_; (with_reducible rfl); rintro e wn ⟨ka, rfl, ka1, ka2, hpm, hbn⟩; replace hT := hT.below hbn; have hka := hpm.ms hT.ma.ms; (try replace hkb := hkb.below hbn); have HKA := hideP (And.intro ka1 ka2); clear ka1 ka2 hpm hbn; dsimp only)
    | (go_at_call 20; refine (HRB2.out _ _ ?_ hT.mb.ms).mono ?_; (with_reducible rfl); rintro e wm ⟨kb, rfl, kb1, kb2, hpm, hbn⟩; replace hT := hT.below hbn; have hkb := hpm.ms hT.mb.ms; (try replace hka := hka.below hbn); have HKB := hideP (And.intro kb1 kb2); clear kb1 kb2 hpm hbn; dsimp only)
    | (go_at_call 11; refine (same_v ka kb _ hka hkb v (by rw [HKA.out.1, HKA.out.2, HKB.out.1, HKB.out.2]; exact HV.out)).mono ?_; rintro e wo ⟨rfl, hbo⟩; replace hT := hT.below hbo; clear hbo hka hkb; dsimp only))
  clear HSB
  go_wp2_with fail
  refine (HST.out _ hT.sl.ps).mono ?_
  rintro e w12 ⟨rfl, hb12⟩
  dsimp only
  replace hT := hT.below hb12
  clear hb12 HST e1 HV HRPA HRA2 HRB2
  by_cases hk : chk ByteArray.empty l = 0
  · by_cases hn : ownB n = true
    · have hrt : rt = (ptL a.cs a.os n l, 0) := by rw [HRT.out]; exact partV_ok HC.out hk hn
      subst hrt
      rw [hk]
      have hol := chk_ok.1 hk
      have hsm := hol.small
      have h03 : 0 ≤ n ∧ n ≤ 3 := by simpa [ownB] using hn
      have n0 : ¬ n < 0 := by omega
      have n3 : ¬ 3 < n := by omega
      have n4 : ¬ n > 3 := n3
      have HOF := hideP (fun (W : World) (h : SV W A c l) => of_mv A c l W h hol)
      have HOW := hideP (fun (W : World) (q : Nat) (h : MV W q l.length (valOf l)) (h' : MS W a) => rowned_any a q l.length (valOf l) n W h (by omega) h' HOK.out)
      have HLI := hideP (fun (W : World) (q : Nat) (h : MV W q l.length (ownF a.cs a.os n (valOf l))) => list_mv q l.length _ (ptL a.cs a.os n l) W h (by omega) (ptL_ok hol n) (ptL_val hol n))
      have hpl : (ptL a.cs a.os n l).length < 4611686018427387904 := Nat.lt_of_le_of_lt (List.length_filter_le _ _) hl3
      have HEQ := hideP (fun (W : World) (Y : Option Addr) (cy : Nat) (h : PS W W.heap.size X (ptL a.cs a.os n l)) (h' : PS W W.heap.size Y (ptL a.cs a.os n l)) => equal_same X Y cx cy _ W h h' hpl)
      dsimp only at hT ⊢
      clear hk hn hol hsm h03 HRT HC HOK hpl
      have HSC := hideP (fun (w' : World) (h : TA w g a b gp p A c l X cx (ptL a.cs a.os n l) w') => show w'.cell? ⟨g, 0, none⟩ = some (.slice a.A a.cs.length a.ca) ∧ w'.cell? ⟨g, 1, none⟩ = some (.slice a.O a.os.length a.co) from ⟨h.ma.c.1, h.ma.c.2⟩)
      go_wp2_with fail
      replace hT := hT.drew
      go_region_held3 (fun w' => w'.cell? ⟨g, 0, none⟩ = some (.slice a.A a.cs.length a.ca) ∧ w'.cell? ⟨g, 1, none⟩ = some (.slice a.O a.os.length a.co)) (first | (refine HSC.out _ ?_; with_reducible exact hT)) (first
        | (go_at_call 25; refine (HOF.out _ hT.sl).mono ?_; rintro e wq ⟨bm, rfl, hmv, hbq⟩; replace hT := hT.below hbq; clear hbq; dsimp only)
        | (go_at_call 24; refine (HOW.out _ bm hmv hT.ma.ms).mono ?_; rintro e ws ⟨bo, rfl, hmo, hbs⟩; replace hT := hT.below hbs; clear hbs hmv; dsimp only)
        | (go_at_call 23; refine (HLI.out _ bo hmo).mono ?_; rintro e wt ⟨Y, cy, rfl, hsy, hbt⟩; replace hT := hT.below hbt; clear hbt hmo; dsimp only)
        | (go_at_call 22; refine (HEQ.out _ Y cy hT.sx.ps hsy.ps).mono ?_; rintro e wu ⟨rfl, hbu⟩; replace hT := hT.below hbu; clear hbu hsy; dsimp only))
      have hbe := hT.ma.be
      go_wp2_with fail
      go_ret
      exact ⟨rfl, hbe⟩
    · have hn' : ownB n = false := by simpa using hn
      have hrt : rt = ([], 1) := by rw [HRT.out]; exact partV_arg HC.out hk hn'
      subst hrt
      rw [hk]
      have hbe := hT.ma.be
      dsimp only [List.length_nil]
      clear hk hn HRT HC HOK
      by_cases n0 : n < 0
      · clear hn'
        go_wp2_with fail
        go_ret
        exact ⟨rfl, hbe⟩
      · have n3 : 3 < n := by simp [ownB] at hn'; omega
        have n4 : n > 3 := n3
        clear hn'
        go_wp2_with fail
        go_ret
        exact ⟨rfl, hbe⟩
  · have hrt : rt = ([], chk ByteArray.empty l) := by rw [HRT.out]; exact partV_bad2 HC.out hk
    subst hrt
    have hbe := hT.ma.be
    dsimp only [List.length_nil]
    have d0 : (chk ByteArray.empty l != 0) = true := by simp [hk]
    have d1 : (chk ByteArray.empty l == 0) = false := by simp [hk]
    clear HRT HC HOK hk hT
    generalize chk ByteArray.empty l = q at d0 d1 ⊢
    have dq : (q == q) = true := by simp
    go_wp2_with fail
    go_ret
    exact ⟨rfl, hbe⟩
end Go.Proofs.YtoelnhnbefkfoaaDoor

set_option linter.unusedVariables false
namespace Go.Proofs.YtoelnhnbefkfoaaDoor
open Go.RowKit

theorem stells_any (a b : Mp) (A : Option Addr) (c : Nat) (l : List Pr) (n : Int) (w : World) (ha : MS w a) (hb : MS w b) (hA : SV w A c l) (hl3 : l.length < 4611686018427387904) :
    Calls Tryd.prog 4 #[.agg #[.slice a.A a.cs.length a.ca, .slice a.O a.os.length a.co], .agg #[.slice b.A b.cs.length b.ca, .slice b.O b.os.length b.co], .slice A l.length c, .int .i64 n] w fun e w' => e = .returned (.bool true) ∧ Below w.heap.size w w' := by
  by_cases hc : chkM a.cs a.os = 0
  · by_cases hcb : chkM b.cs b.os = 0
    · exact stells_ok a b A c l n w ha hb hA hl3 hc hcb
    · exact stells_bad2 a b A c l n w ha hb hA hl3 hc hcb
  · exact stells_bad a b A c l n w ha hb hA hl3 hc
end Go.Proofs.YtoelnhnbefkfoaaDoor
