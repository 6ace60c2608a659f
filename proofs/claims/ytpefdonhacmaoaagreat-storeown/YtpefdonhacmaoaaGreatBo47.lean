/-
  What StoreOwn holds in memory behind the copies (no body of the program in it).
  What rokeep.Map makes, plainly (no program in it).
-/
import Derived.Test.YtpefdonhacmaoaaGreatBo46
import Derived.Test.YtpefdonhacmaoaaGreatBo16
import Derived.Test.YtpefdonhacmaoaaGreatBo32
set_option linter.unusedVariables false
set_option linter.unusedSimpArgs false
namespace Go.Proofs.YtpefdonhacmaoaaGreat
open Go.RowKit

theorem ne_low {w : World} {B : Nat} {t : TypeId} {s n g : Nat} {v : Value} {xs : List Value} (h : w.ownsRow B t s v n xs) (hg : g < B) : v.ownBlock = none ∨ v.ownBlock ≠ some g := by
  cases hk : v.ownBlock with
  | none => exact .inl rfl
  | some r => exact .inr fun e => by injection e with e; have := (World.ownsRow.lt h r hk).1; omega
theorem WanP.kept {wl wr w' : World} {ss ws : List SvP} {Aw : Option Addr} {cw g : Nat} (h : WanP wl wr ss ws Aw cw) (hg : wr.grownBy w' (some g)) (hlt : g < wl.heap.size) : WanP wl w' ss ws Aw cw :=
  ⟨World.ownsRow.kept h.row hg (ne_low h.row hlt), fun s hs => World.ownsRow.kept (h.ow s hs) hg (ne_low (h.ow s hs) hlt), h.eq⟩
/-- the results, the copies of them -/
structure FiH (w : World) (B ga : Nat) (ss ws : List SvP) (Aw : Option Addr) (cw : Nat) (is is' : List SvI) (ks ks' : List SvS) (bs bs' : List SvB) (wl wr : World) : Prop where
  xa : Box wr ga 33 (ss.map SvP.v).toArray
  wa : WanP wl wr ss ws Aw cw
  rp : RsP B ss wr
  ri : RsI B is wr
  rk : RsS B ks wr
  rb : RsB B bs wr
  ci : RsI wl.heap.size is' wr
  ck : RsS wl.heap.size ks' wr
  cb : RsB wl.heap.size bs' wr
  be : Below w.heap.size w wr
  sz : wl.heap.size ≤ wr.heap.size
section
variable {w wl wr w' : World} {B ga cw : Nat} {ss ws : List SvP} {Aw : Option Addr} {is is' : List SvI} {ks ks' : List SvS} {bs bs' : List SvB}
theorem FiH.below (h : FiH w B ga ss ws Aw cw is is' ks ks' bs bs' wl wr) (hb : Below wr.heap.size wr w') : FiH w B ga ss ws Aw cw is is' ks ks' bs bs' wl w' :=
  ⟨h.xa.below hb, h.wa.below hb, h.rp.below hb, h.ri.below hb, h.rk.below hb, h.rb.below hb, h.ci.below hb, h.ck.below hb, h.cb.below hb, h.be.trans (hb.mono h.be.size), Nat.le_trans h.sz hb.size⟩
theorem FiH.kept {g : Nat} (h : FiH w B ga ss ws Aw cw is is' ks ks' bs bs' wl wr) (hg : wr.grownBy w' (some g)) (h1 : g < B) (h2 : B ≤ ga) (h3 : B ≤ wl.heap.size) (h4 : w.heap.size ≤ g) : FiH w B ga ss ws Aw cw is is' ks ks' bs bs' wl w' :=
  ⟨h.xa.grown hg (fun e => by injection e with e; omega), h.wa.kept hg (by omega), h.rp.kept hg h1, h.ri.kept hg h1, h.rk.kept hg h1, h.rb.kept hg h1, h.ci.kept hg (by omega), h.ck.kept hg (by omega), h.cb.kept hg (by omega), h.be.grown hg h.be.size (fun j hj => by injection hj with hj; omega), Nat.le_trans h.sz hg.size⟩
theorem FiH.addI (h : FiH w B ga ss ws Aw cw is is' ks ks' bs bs' wl wr) (hb : Below wr.heap.size wr w') {A : Option Addr} {c : Nat} {x : List Int} (ho : OR w' wr.heap.size 3 A c (x.map (Value.int .i64))) (hs : x.length ≤ 1000000) : FiH w B ga ss ws Aw cw is (is' ++ [⟨A, c, x⟩]) ks ks' bs bs' wl w' :=
  { h.below hb with ci := h.ci.add hb ⟨A, c, x⟩ ho hs h.sz }
theorem FiH.addS (h : FiH w B ga ss ws Aw cw is is' ks ks' bs bs' wl wr) (hb : Below wr.heap.size wr w') {A : Option Addr} {c : Nat} {x : List ByteArray} (ho : OR w' wr.heap.size 9 A c (x.map Value.string)) (hs : x.length ≤ 1000000) : FiH w B ga ss ws Aw cw is is' ks (ks' ++ [⟨A, c, x⟩]) bs bs' wl w' :=
  { h.below hb with ck := h.ck.add hb ⟨A, c, x⟩ ho hs h.sz }
theorem FiH.addB (h : FiH w B ga ss ws Aw cw is is' ks ks' bs bs' wl wr) (hb : Below wr.heap.size wr w') {A : Option Addr} {c : Nat} {x : List Bool} (ho : OR w' wr.heap.size 4 A c (x.map Value.bool)) (hs : x.length ≤ 1000000) : FiH w B ga ss ws Aw cw is is' ks ks' bs (bs' ++ [⟨A, c, x⟩]) wl w' :=
  { h.below hb with cb := h.cb.add hb ⟨A, c, x⟩ ho hs h.sz }
end
theorem oclI {B : Nat} {A : Option Addr} {c : Nat} {zs : List Int} (w : World) (h : OR w B 3 A c (zs.map (Value.int .i64))) (hs : zs.length ≤ 1000000) :
    Calls Tryz.prog 37 #[.slice A zs.length c] w fun e w' => ∃ A' c', e = .returned (.slice A' zs.length c') ∧ OR w' w.heap.size 3 A' c' (zs.map (Value.int .i64)) ∧ Below w.heap.size w w' := by
  have H := cloneI_any B A c (zs.map (Value.int .i64)) w h (oneI zs) (by rw [List.length_map]; exact hs)
  simpa only [List.length_map] using H
theorem oeqI {B B2 : Nat} {A A2 : Option Addr} {c c2 : Nat} {zs : List Int} (w : World) (h1 : OR w B 3 A c (zs.map (Value.int .i64))) (h2 : OR w B2 3 A2 c2 (zs.map (Value.int .i64))) (hs : zs.length ≤ 1000000) :
    Calls Tryz.prog 44 #[.slice A zs.length c, .slice A2 zs.length c2] w fun e w' => e = .returned (.bool true) ∧ Below w.heap.size w w' :=
  (ieq_any A A2 c c2 zs zs w h1.vs.is_int h2.vs.is_int (by omega) (by omega)).mono (fun e w' h => ⟨by rw [h.1]; simp, h.2⟩)
theorem oclS {B : Nat} {A : Option Addr} {c : Nat} {zs : List ByteArray} (w : World) (h : OR w B 9 A c (zs.map Value.string)) (hs : zs.length ≤ 1000000) :
    Calls Tryz.prog 38 #[.slice A zs.length c] w fun e w' => ∃ A' c', e = .returned (.slice A' zs.length c') ∧ OR w' w.heap.size 9 A' c' (zs.map Value.string) ∧ Below w.heap.size w w' := by
  have H := cloneS_any B A c (zs.map Value.string) w h (oneS zs) (by rw [List.length_map]; exact hs)
  simpa only [List.length_map] using H
theorem oeqS {B B2 : Nat} {A A2 : Option Addr} {c c2 : Nat} {zs : List ByteArray} (w : World) (h1 : OR w B 9 A c (zs.map Value.string)) (h2 : OR w B2 9 A2 c2 (zs.map Value.string)) (hs : zs.length ≤ 1000000) :
    Calls Tryz.prog 45 #[.slice A zs.length c, .slice A2 zs.length c2] w fun e w' => e = .returned (.bool true) ∧ Below w.heap.size w w' :=
  (sequal_any A A2 c c2 zs zs w h1.vs h2.vs (by omega) (by omega)).mono (fun e w' h => ⟨by rw [h.1]; simp, h.2⟩)
theorem oclB {B : Nat} {A : Option Addr} {c : Nat} {zs : List Bool} (w : World) (h : OR w B 4 A c (zs.map Value.bool)) (hs : zs.length ≤ 1000000) :
    Calls Tryz.prog 39 #[.slice A zs.length c] w fun e w' => ∃ A' c', e = .returned (.slice A' zs.length c') ∧ OR w' w.heap.size 4 A' c' (zs.map Value.bool) ∧ Below w.heap.size w w' := by
  have H := cloneB_any B A c (zs.map Value.bool) w h (oneB zs) (by rw [List.length_map]; exact hs)
  simpa only [List.length_map] using H
theorem oeqB {B B2 : Nat} {A A2 : Option Addr} {c c2 : Nat} {zs : List Bool} (w : World) (h1 : OR w B 4 A c (zs.map Value.bool)) (h2 : OR w B2 4 A2 c2 (zs.map Value.bool)) (hs : zs.length ≤ 1000000) :
    Calls Tryz.prog 46 #[.slice A zs.length c, .slice A2 zs.length c2] w fun e w' => e = .returned (.bool true) ∧ Below w.heap.size w w' :=
  bequal_same A A2 c c2 zs w h1.vs h2.vs (by omega)
def FiI (w : World) (B ga : Nat) (ss ws : List SvP) (Aw : Option Addr) (cw : Nat) (is is' : List SvI) (ks ks' : List SvS) (bs bs' : List SvB) (wl : World) (i : Value) (wr : World) : Prop := ∃ q : Nat, q ≤ 7 ∧ i = .int .i64 q ∧ FiH w B ga ss ws Aw cw is is' ks ks' bs bs' wl wr
/-- the results but the stores, the copies of them -/
structure EnH (w : World) (B B' : Nat) (is is' : List SvI) (ks ks' : List SvS) (bs bs' : List SvB) (wr : World) : Prop where
  ri : RsI B is wr
  rk : RsS B ks wr
  rb : RsB B bs wr
  ci : RsI B' is' wr
  ck : RsS B' ks' wr
  cb : RsB B' bs' wr
  be : Below w.heap.size w wr
  sz : B ≤ wr.heap.size
theorem EnH.below {w wr w' : World} {B B' : Nat} {is is' : List SvI} {ks ks' : List SvS} {bs bs' : List SvB} (h : EnH w B B' is is' ks ks' bs bs' wr) (hb : Below wr.heap.size wr w') : EnH w B B' is is' ks ks' bs bs' w' :=
  ⟨h.ri.below hb, h.rk.below hb, h.rb.below hb, h.ci.below hb, h.ck.below hb, h.cb.below hb, h.be.trans (hb.mono h.be.size), Nat.le_trans h.sz hb.size⟩
end Go.Proofs.YtpefdonhacmaoaaGreat

set_option linter.unusedVariables false
set_option linter.unusedSimpArgs false
namespace Go.Proofs.YtpefdonhacmaoaaGreat

def cutsL : List ByteArray := [⟨#[97]⟩, ⟨#[98]⟩, ⟨#[98, 98]⟩, ⟨#[100]⟩, ⟨#[109]⟩, ⟨#[112]⟩]
theorem cutsL_ok : cutsB ByteArray.empty cutsL = true := by decide +kernel
/-- the i-th cut is taken -/
def mpT (zs : List Int) (i : Nat) : Bool := decide (i < zs.length) && decide (0 < wi (zs.getD i 0) 3)
/-- the map of the first i cuts -/
def mapR (zs : List Int) : Nat → List ByteArray × List Nat
  | 0 => ([], [0])
  | i + 1 => if mpT zs i = true then ((mapR zs i).1 ++ [cutsL.getD i ByteArray.empty], (mapR zs i).2 ++ [wi ((zs.getD i 0).tdiv 3) 4]) else mapR zs i
theorem mapR_len (zs : List Int) (i : Nat) : (mapR zs i).2.length = (mapR zs i).1.length + 1 := by
  induction i with
  | zero => rfl
  | succ i ih => simp only [mapR]; split <;> simp [ih]
theorem mapR_few (zs : List Int) (i : Nat) : (mapR zs i).1.length ≤ i := by
  induction i with
  | zero => simp [mapR]
  | succ i ih =>
    simp only [mapR]
    split
    · rw [List.length_append, List.length_singleton]; omega
    · omega
theorem mapR_sub (zs : List Int) {i : Nat} (hi : i ≤ 6) : (mapR zs i).1.Sublist (cutsL.take i) := by
  induction i with
  | zero => simp [mapR]
  | succ i ih =>
    have hl : i < cutsL.length := by simp [cutsL]; omega
    have e : cutsL.take (i + 1) = cutsL.take i ++ [cutsL.getD i ByteArray.empty] := by
      rw [List.take_succ_eq_append_getElem hl]; simp [List.getD_eq_getElem?_getD, hl]
    rw [e]
    simp only [mapR]
    split
    · exact (ih (by omega)).append (List.Sublist.refl _)
    · exact (ih (by omega)).trans (List.sublist_append_left _ _)
theorem mapR_own (zs : List Int) (i : Nat) : ∀ n ∈ (mapR zs i).2, n ≤ 3 := by
  induction i with
  | zero => intro n hn; simp [mapR] at hn; omega
  | succ i ih =>
    simp only [mapR]
    split
    · intro n hn
      rcases List.mem_append.1 hn with hn | hn
      · exact ih n hn
      · rw [List.mem_singleton.1 hn]
        have := wi_lt ((zs.getD i 0).tdiv 3) 4 (by decide)
        omega
    · exact ih
theorem mapR_ok (zs : List Int) : OkM (mapR zs 6).1 ((mapR zs 6).2.map fun (k : Nat) => (k : Int)) := by
  have hs := mapR_sub zs (i := 6) (by decide)
  obtain ⟨h1, h2⟩ := cutsB_iff.1 cutsL_ok
  have ht : cutsL.take 6 = cutsL := rfl
  rw [ht] at hs
  refine ⟨by have := mapR_few zs 6; omega, by rw [List.length_map, mapR_len], cutsB_iff.2 ⟨fun k hk => h1 k (hs.subset hk), h2.sublist hs⟩, fun n hn => ?_⟩
  obtain ⟨k, hk, rfl⟩ := List.mem_map.1 hn
  have := mapR_own zs 6 k hk
  omega
end Go.Proofs.YtpefdonhacmaoaaGreat
