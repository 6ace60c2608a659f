/-
  What StoreOwn holds in memory (no body of the program in it).
-/
import Derived.Test.YtpefdonhacmaoaaGreatBo37
import Derived.Test.YtpefdonhacmaoaaGreatBo39
import Derived.Test.YtpefdonhacmaoaaGreatBo40
import Derived.Test.YtpefdonhacmaoaaGreatBo41
import Derived.Test.YtpefdonhacmaoaaGreatBo42
import Derived.Test.YtpefdonhacmaoaaGreatBo43
import Derived.Test.YtpefdonhacmaoaaGreatBo44
import Derived.Test.YtpefdonhacmaoaaGreatBo45
set_option linter.unusedVariables false
set_option linter.unusedSimpArgs false
namespace Go.Proofs.YtpefdonhacmaoaaGreat
open Go.RowKit

/-- results, each in a block of its own -/
structure RsP (B : Nat) (ss : List SvP) (w : World) : Prop where
  ow : ∀ s ∈ ss, s.o w B
  sm : ∀ s ∈ ss, s.zs.length ≤ 1000000000
  ap : ∀ (i j : Nat) (s s' : SvP), i ≠ j → ss[i]? = some s → ss[j]? = some s' → blk s.A = none ∨ blk s.A ≠ blk s'.A
theorem RsP.nil (B : Nat) (w : World) : RsP B [] w := ⟨fun s hs => (by cases hs), fun s hs => (by cases hs), fun i j s s' _ hs => (by simp at hs)⟩
theorem RsP.below {B : Nat} {ss : List SvP} {w w' : World} (h : RsP B ss w) (hb : Below w.heap.size w w') : RsP B ss w' := ⟨fun s hs => OV.below (h.ow s hs) hb, h.sm, h.ap⟩
theorem RsP.kept {B g : Nat} {ss : List SvP} {w w' : World} (h : RsP B ss w) (hg : w.grownBy w' (some g)) (hgB : g < B) : RsP B ss w' :=
  ⟨fun s hs => World.ownsRow.kept (h.ow s hs) hg (by
    rw [ownBlock_slice]
    cases hk : blk s.A with
    | none => exact .inl rfl
    | some r => exact .inr fun e => (by injection e with e; have := (World.ownsRow.lt (h.ow s hs) r (by rw [ownBlock_slice]; exact hk)).1; omega)), h.sm, h.ap⟩
theorem RsP.kpt {B : Nat} {t : TypeId} {ss : List SvP} {w w' : World} (h : RsP B ss w) (hk : KpT t w w') (hne : 51 ≠ t) : RsP B ss w' := ⟨fun s hs => own_kpt (h.ow s hs) hk hne, h.sm, h.ap⟩
theorem RsP.more {B : Nat} {ss : List SvP} {w : World} (h : RsP B ss w) (x : SvP) (ho : x.o w B) (hs : x.zs.length ≤ 1000000000) (hap : ∀ s ∈ ss, blk s.A = none ∨ blk s.A ≠ blk x.A) : RsP B (ss ++ [x]) w := by
  refine ⟨fun s hm => ?_, fun s hm => ?_, fun i j s s' hij hi hj => ?_⟩
  · rcases List.mem_append.1 hm with hm | hm
    · exact h.ow s hm
    · rw [List.mem_singleton.1 hm]; exact ho
  · rcases List.mem_append.1 hm with hm | hm
    · exact h.sm s hm
    · rw [List.mem_singleton.1 hm]; exact hs
  · rw [List.getElem?_append] at hi hj
    split at hi <;> split at hj
    · exact h.ap i j s s' hij hi hj
    · rename_i h1 h2
      rw [List.getElem?_singleton] at hj
      split at hj
      · injection hj with hj; subst hj; exact hap s (List.mem_of_getElem? hi)
      · cases hj
    · rename_i h1 h2
      rw [List.getElem?_singleton] at hi
      split at hi
      · injection hi with hi; subst hi
        rcases hap s' (List.mem_of_getElem? hj) with e | e
        · rw [e]; cases blk x.A <;> simp
        · exact .inr fun e' => e e'.symm
      · cases hi
    · rename_i h1 h2
      rw [List.getElem?_singleton] at hi hj
      split at hi <;> split at hj <;> first | (exfalso; omega) | (injection hi; done) | (injection hj; done)
theorem RsP.add {B : Nat} {ss : List SvP} {w w' : World} (h : RsP B ss w) (hb : Below w.heap.size w w') (x : SvP) (ho : x.o w' w.heap.size) (hs : x.zs.length ≤ 1000000000) (hB : B ≤ w.heap.size) : RsP B (ss ++ [x]) w' := by
  refine (h.below hb).more x (OV.mono ho hB) hs fun s hm => ?_
  cases hk : blk s.A with
  | none => exact .inl rfl
  | some r =>
    refine .inr fun e => ?_
    have h1 := (World.ownsRow.lt (h.ow s hm) r (by rw [ownBlock_slice]; exact hk)).2
    have h2 := (World.ownsRow.lt ho r (by rw [ownBlock_slice]; exact e.symm)).1
    omega
/-- results, each in a block of its own -/
structure RsI (B : Nat) (ss : List SvI) (w : World) : Prop where
  ow : ∀ s ∈ ss, s.o w B
  sm : ∀ s ∈ ss, s.zs.length ≤ 1000000
  ap : ∀ (i j : Nat) (s s' : SvI), i ≠ j → ss[i]? = some s → ss[j]? = some s' → blk s.A = none ∨ blk s.A ≠ blk s'.A
theorem RsI.nil (B : Nat) (w : World) : RsI B [] w := ⟨fun s hs => (by cases hs), fun s hs => (by cases hs), fun i j s s' _ hs => (by simp at hs)⟩
theorem RsI.below {B : Nat} {ss : List SvI} {w w' : World} (h : RsI B ss w) (hb : Below w.heap.size w w') : RsI B ss w' := ⟨fun s hs => OR.below (h.ow s hs) hb, h.sm, h.ap⟩
theorem RsI.kept {B g : Nat} {ss : List SvI} {w w' : World} (h : RsI B ss w) (hg : w.grownBy w' (some g)) (hgB : g < B) : RsI B ss w' :=
  ⟨fun s hs => World.ownsRow.kept (h.ow s hs) hg (by
    rw [ownBlock_slice]
    cases hk : blk s.A with
    | none => exact .inl rfl
    | some r => exact .inr fun e => (by injection e with e; have := (World.ownsRow.lt (h.ow s hs) r (by rw [ownBlock_slice]; exact hk)).1; omega)), h.sm, h.ap⟩
theorem RsI.kpt {B : Nat} {t : TypeId} {ss : List SvI} {w w' : World} (h : RsI B ss w) (hk : KpT t w w') (hne : 3 ≠ t) : RsI B ss w' := ⟨fun s hs => own_kpt (h.ow s hs) hk hne, h.sm, h.ap⟩
theorem RsI.more {B : Nat} {ss : List SvI} {w : World} (h : RsI B ss w) (x : SvI) (ho : x.o w B) (hs : x.zs.length ≤ 1000000) (hap : ∀ s ∈ ss, blk s.A = none ∨ blk s.A ≠ blk x.A) : RsI B (ss ++ [x]) w := by
  refine ⟨fun s hm => ?_, fun s hm => ?_, fun i j s s' hij hi hj => ?_⟩
  · rcases List.mem_append.1 hm with hm | hm
    · exact h.ow s hm
    · rw [List.mem_singleton.1 hm]; exact ho
  · rcases List.mem_append.1 hm with hm | hm
    · exact h.sm s hm
    · rw [List.mem_singleton.1 hm]; exact hs
  · rw [List.getElem?_append] at hi hj
    split at hi <;> split at hj
    · exact h.ap i j s s' hij hi hj
    · rename_i h1 h2
      rw [List.getElem?_singleton] at hj
      split at hj
      · injection hj with hj; subst hj; exact hap s (List.mem_of_getElem? hi)
      · cases hj
    · rename_i h1 h2
      rw [List.getElem?_singleton] at hi
      split at hi
      · injection hi with hi; subst hi
        rcases hap s' (List.mem_of_getElem? hj) with e | e
        · rw [e]; cases blk x.A <;> simp
        · exact .inr fun e' => e e'.symm
      · cases hi
    · rename_i h1 h2
      rw [List.getElem?_singleton] at hi hj
      split at hi <;> split at hj <;> first | (exfalso; omega) | (injection hi; done) | (injection hj; done)
theorem RsI.add {B : Nat} {ss : List SvI} {w w' : World} (h : RsI B ss w) (hb : Below w.heap.size w w') (x : SvI) (ho : x.o w' w.heap.size) (hs : x.zs.length ≤ 1000000) (hB : B ≤ w.heap.size) : RsI B (ss ++ [x]) w' := by
  refine (h.below hb).more x (OR.mono ho hB) hs fun s hm => ?_
  cases hk : blk s.A with
  | none => exact .inl rfl
  | some r =>
    refine .inr fun e => ?_
    have h1 := (World.ownsRow.lt (h.ow s hm) r (by rw [ownBlock_slice]; exact hk)).2
    have h2 := (World.ownsRow.lt ho r (by rw [ownBlock_slice]; exact e.symm)).1
    omega
/-- results, each in a block of its own -/
structure RsS (B : Nat) (ss : List SvS) (w : World) : Prop where
  ow : ∀ s ∈ ss, s.o w B
  sm : ∀ s ∈ ss, s.zs.length ≤ 1000000
  ap : ∀ (i j : Nat) (s s' : SvS), i ≠ j → ss[i]? = some s → ss[j]? = some s' → blk s.A = none ∨ blk s.A ≠ blk s'.A
theorem RsS.nil (B : Nat) (w : World) : RsS B [] w := ⟨fun s hs => (by cases hs), fun s hs => (by cases hs), fun i j s s' _ hs => (by simp at hs)⟩
theorem RsS.below {B : Nat} {ss : List SvS} {w w' : World} (h : RsS B ss w) (hb : Below w.heap.size w w') : RsS B ss w' := ⟨fun s hs => OR.below (h.ow s hs) hb, h.sm, h.ap⟩
theorem RsS.kept {B g : Nat} {ss : List SvS} {w w' : World} (h : RsS B ss w) (hg : w.grownBy w' (some g)) (hgB : g < B) : RsS B ss w' :=
  ⟨fun s hs => World.ownsRow.kept (h.ow s hs) hg (by
    rw [ownBlock_slice]
    cases hk : blk s.A with
    | none => exact .inl rfl
    | some r => exact .inr fun e => (by injection e with e; have := (World.ownsRow.lt (h.ow s hs) r (by rw [ownBlock_slice]; exact hk)).1; omega)), h.sm, h.ap⟩
theorem RsS.kpt {B : Nat} {t : TypeId} {ss : List SvS} {w w' : World} (h : RsS B ss w) (hk : KpT t w w') (hne : 9 ≠ t) : RsS B ss w' := ⟨fun s hs => own_kpt (h.ow s hs) hk hne, h.sm, h.ap⟩
theorem RsS.more {B : Nat} {ss : List SvS} {w : World} (h : RsS B ss w) (x : SvS) (ho : x.o w B) (hs : x.zs.length ≤ 1000000) (hap : ∀ s ∈ ss, blk s.A = none ∨ blk s.A ≠ blk x.A) : RsS B (ss ++ [x]) w := by
  refine ⟨fun s hm => ?_, fun s hm => ?_, fun i j s s' hij hi hj => ?_⟩
  · rcases List.mem_append.1 hm with hm | hm
    · exact h.ow s hm
    · rw [List.mem_singleton.1 hm]; exact ho
  · rcases List.mem_append.1 hm with hm | hm
    · exact h.sm s hm
    · rw [List.mem_singleton.1 hm]; exact hs
  · rw [List.getElem?_append] at hi hj
    split at hi <;> split at hj
    · exact h.ap i j s s' hij hi hj
    · rename_i h1 h2
      rw [List.getElem?_singleton] at hj
      split at hj
      · injection hj with hj; subst hj; exact hap s (List.mem_of_getElem? hi)
      · cases hj
    · rename_i h1 h2
      rw [List.getElem?_singleton] at hi
      split at hi
      · injection hi with hi; subst hi
        rcases hap s' (List.mem_of_getElem? hj) with e | e
        · rw [e]; cases blk x.A <;> simp
        · exact .inr fun e' => e e'.symm
      · cases hi
    · rename_i h1 h2
      rw [List.getElem?_singleton] at hi hj
      split at hi <;> split at hj <;> first | (exfalso; omega) | (injection hi; done) | (injection hj; done)
theorem RsS.add {B : Nat} {ss : List SvS} {w w' : World} (h : RsS B ss w) (hb : Below w.heap.size w w') (x : SvS) (ho : x.o w' w.heap.size) (hs : x.zs.length ≤ 1000000) (hB : B ≤ w.heap.size) : RsS B (ss ++ [x]) w' := by
  refine (h.below hb).more x (OR.mono ho hB) hs fun s hm => ?_
  cases hk : blk s.A with
  | none => exact .inl rfl
  | some r =>
    refine .inr fun e => ?_
    have h1 := (World.ownsRow.lt (h.ow s hm) r (by rw [ownBlock_slice]; exact hk)).2
    have h2 := (World.ownsRow.lt ho r (by rw [ownBlock_slice]; exact e.symm)).1
    omega
/-- results, each in a block of its own -/
structure RsB (B : Nat) (ss : List SvB) (w : World) : Prop where
  ow : ∀ s ∈ ss, s.o w B
  sm : ∀ s ∈ ss, s.zs.length ≤ 1000000
  ap : ∀ (i j : Nat) (s s' : SvB), i ≠ j → ss[i]? = some s → ss[j]? = some s' → blk s.A = none ∨ blk s.A ≠ blk s'.A
theorem RsB.nil (B : Nat) (w : World) : RsB B [] w := ⟨fun s hs => (by cases hs), fun s hs => (by cases hs), fun i j s s' _ hs => (by simp at hs)⟩
theorem RsB.below {B : Nat} {ss : List SvB} {w w' : World} (h : RsB B ss w) (hb : Below w.heap.size w w') : RsB B ss w' := ⟨fun s hs => OR.below (h.ow s hs) hb, h.sm, h.ap⟩
theorem RsB.kept {B g : Nat} {ss : List SvB} {w w' : World} (h : RsB B ss w) (hg : w.grownBy w' (some g)) (hgB : g < B) : RsB B ss w' :=
  ⟨fun s hs => World.ownsRow.kept (h.ow s hs) hg (by
    rw [ownBlock_slice]
    cases hk : blk s.A with
    | none => exact .inl rfl
    | some r => exact .inr fun e => (by injection e with e; have := (World.ownsRow.lt (h.ow s hs) r (by rw [ownBlock_slice]; exact hk)).1; omega)), h.sm, h.ap⟩
theorem RsB.kpt {B : Nat} {t : TypeId} {ss : List SvB} {w w' : World} (h : RsB B ss w) (hk : KpT t w w') (hne : 4 ≠ t) : RsB B ss w' := ⟨fun s hs => own_kpt (h.ow s hs) hk hne, h.sm, h.ap⟩
theorem RsB.more {B : Nat} {ss : List SvB} {w : World} (h : RsB B ss w) (x : SvB) (ho : x.o w B) (hs : x.zs.length ≤ 1000000) (hap : ∀ s ∈ ss, blk s.A = none ∨ blk s.A ≠ blk x.A) : RsB B (ss ++ [x]) w := by
  refine ⟨fun s hm => ?_, fun s hm => ?_, fun i j s s' hij hi hj => ?_⟩
  · rcases List.mem_append.1 hm with hm | hm
    · exact h.ow s hm
    · rw [List.mem_singleton.1 hm]; exact ho
  · rcases List.mem_append.1 hm with hm | hm
    · exact h.sm s hm
    · rw [List.mem_singleton.1 hm]; exact hs
  · rw [List.getElem?_append] at hi hj
    split at hi <;> split at hj
    · exact h.ap i j s s' hij hi hj
    · rename_i h1 h2
      rw [List.getElem?_singleton] at hj
      split at hj
      · injection hj with hj; subst hj; exact hap s (List.mem_of_getElem? hi)
      · cases hj
    · rename_i h1 h2
      rw [List.getElem?_singleton] at hi
      split at hi
      · injection hi with hi; subst hi
        rcases hap s' (List.mem_of_getElem? hj) with e | e
        · rw [e]; cases blk x.A <;> simp
        · exact .inr fun e' => e e'.symm
      · cases hi
    · rename_i h1 h2
      rw [List.getElem?_singleton] at hi hj
      split at hi <;> split at hj <;> first | (exfalso; omega) | (injection hi; done) | (injection hj; done)
theorem RsB.add {B : Nat} {ss : List SvB} {w w' : World} (h : RsB B ss w) (hb : Below w.heap.size w w') (x : SvB) (ho : x.o w' w.heap.size) (hs : x.zs.length ≤ 1000000) (hB : B ≤ w.heap.size) : RsB B (ss ++ [x]) w' := by
  refine (h.below hb).more x (OR.mono ho hB) hs fun s hm => ?_
  cases hk : blk s.A with
  | none => exact .inl rfl
  | some r =>
    refine .inr fun e => ?_
    have h1 := (World.ownsRow.lt (h.ow s hm) r (by rw [ownBlock_slice]; exact hk)).2
    have h2 := (World.ownsRow.lt ho r (by rw [ownBlock_slice]; exact e.symm)).1
    omega
/-- what stands in the room behind the arguments -/
def mkP : Pr := (⟨#[109, 97, 114, 107]⟩, -7)
def mkO : Opr := ⟨-7, ⟨#[]⟩, ⟨#[]⟩, 0⟩
/-- where all lies -/
structure So where
  A : Option Addr
  c : Nat
  l : List Pr
  gm : Nat
  m : Mp
  g7 : Nat
  D : Option Addr
  cd : Nat
  d : List Opr
  gi : Nat
  go : Nat
  gd : Nat
  g13 : Nat
  gs : Nat
  gp : Nat
  k : Int
  n : Int
  B : Nat
structure SoH (w : World) (s : So) (ps : List SvP) (is : List SvI) (ks : List SvS) (bs : List SvB) (wr : World) : Prop where
  la : SV wr s.A s.c s.l
  os : OS wr wr.heap.size s.D s.d
  xm : Box wr s.gm 31 #[.slice s.m.A s.m.cs.length s.m.ca, .slice s.m.O s.m.os.length s.m.co]
  ms : MS wr s.m
  x7 : Box wr s.g7 39 #[.slice s.D s.d.length s.cd]
  oi : OV wr w.heap.size (some ⟨s.gi, 0, none⟩) (s.l.length + 3) (s.l ++ List.replicate 3 mkP)
  oo : OV wr w.heap.size (some ⟨s.go, 0, none⟩) 3 ([] ++ List.replicate 3 mkP)
  od : OO wr w.heap.size (some ⟨s.gd, 0, none⟩) (s.d.length + 3) (s.d ++ List.replicate 3 mkO)
  xo : Box wr s.g13 39 #[.slice (some ⟨s.gd, 0, none⟩) s.d.length (s.d.length + 3)]
  xs : Box wr s.gs 39 #[.slice (some ⟨s.gd, 0, none⟩) s.d.length (s.d.length + 3), .slice (some ⟨s.gd, 0, none⟩) s.d.length (s.d.length + 3)]
  op : OR wr w.heap.size 3 (some ⟨s.gp, 0, none⟩) 5 ([.int .i64 s.k, .int .i64 s.n] ++ List.replicate 3 (.int .i64 (-7)))
  be : Below w.heap.size w wr
  hB : s.B ≤ wr.heap.size
  li : s.gi < s.B
  ld : s.gd < s.B
  lp : s.gp < s.B
  rp : RsP s.B ps wr
  ri : RsI s.B is wr
  rk : RsS s.B ks wr
  rb : RsB s.B bs wr
section
variable {w wr w' : World} {s : So} {ps : List SvP} {is : List SvI} {ks : List SvS} {bs : List SvB}
theorem SoH.below (h : SoH w s ps is ks bs wr) (hb : Below wr.heap.size wr w') : SoH w s ps is ks bs w' :=
  ⟨h.la.below hb, h.os.go hb, h.xm.below hb, h.ms.below hb, h.x7.below hb, h.oi.below hb, h.oo.below hb, h.od.below hb, h.xo.below hb, h.xs.below hb, h.op.below hb, h.be.trans (hb.mono h.be.size), Nat.le_trans h.hB hb.size, h.li, h.ld, h.lp, h.rp.below hb, h.ri.below hb, h.rk.below hb, h.rb.below hb⟩
theorem SoH.drew (h : SoH w s ps is ks bs wr) : SoH w s ps is ks bs wr.drew := h.below (Below.refl _ _).drew
theorem SoH.alloc (h : SoH w s ps is ks bs wr) (o : Obj) : SoH w s ps is ks bs (wr.alloc o) := h.below ((Below.refl _ _).alloc (Nat.le_refl _) _)
theorem SoH.addP (h : SoH w s ps is ks bs wr) (hb : Below wr.heap.size wr w') {A : Option Addr} {c : Nat} {x : List Pr} (ho : OV w' wr.heap.size A c x) (hs : x.length ≤ 400000000) : SoH w s (ps ++ [⟨A, c, x⟩]) is ks bs w' :=
  { h.below hb with rp := h.rp.add hb ⟨A, c, x⟩ ho (by show x.length ≤ 1000000000; omega) h.hB }
theorem SoH.addI (h : SoH w s ps is ks bs wr) (hb : Below wr.heap.size wr w') {A : Option Addr} {c : Nat} {x : List Int} (ho : OR w' wr.heap.size 3 A c (x.map fun n => Value.int .i64 n)) (hs : x.length ≤ 1000) : SoH w s ps (is ++ [⟨A, c, x⟩]) ks bs w' :=
  { h.below hb with ri := h.ri.add hb ⟨A, c, x⟩ ho (by show x.length ≤ 1000000; omega) h.hB }
theorem SoH.addPB (h : SoH w s ps is ks bs wr) (hb : Below wr.heap.size wr w') {A : Option Addr} {c : Nat} {x : List Pr} (ho : OV w' wr.heap.size A c x) (hs : x.length ≤ 400000000) {A2 : Option Addr} {c2 : Nat} {y : List Bool} (ho2 : OR w' wr.heap.size 4 A2 c2 (y.map Value.bool)) (hs2 : y.length ≤ 1000) : SoH w s (ps ++ [⟨A, c, x⟩]) is ks (bs ++ [⟨A2, c2, y⟩]) w' :=
  { h.below hb with rp := h.rp.add hb ⟨A, c, x⟩ ho (by show x.length ≤ 1000000000; omega) h.hB, rb := h.rb.add hb ⟨A2, c2, y⟩ ho2 (by show y.length ≤ 1000000; omega) h.hB }
theorem SoH.addPBI (h : SoH w s ps is ks bs wr) (hb : Below wr.heap.size wr w') {A : Option Addr} {c : Nat} {x : List Pr} (ho : OV w' wr.heap.size A c x) (hs : x.length ≤ 400000000) {A2 : Option Addr} {c2 : Nat} {y : List Bool} (ho2 : OR w' wr.heap.size 4 A2 c2 (y.map Value.bool)) (hs2 : y.length ≤ 1000) {A3 : Option Addr} {c3 : Nat} {z : List Int} (ho3 : OR w' wr.heap.size 3 A3 c3 (z.map fun n => Value.int .i64 n)) (hs3 : z.length ≤ 1000) : SoH w s (ps ++ [⟨A, c, x⟩]) (is ++ [⟨A3, c3, z⟩]) ks (bs ++ [⟨A2, c2, y⟩]) w' :=
  { h.below hb with rp := h.rp.add hb ⟨A, c, x⟩ ho (by show x.length ≤ 1000000000; omega) h.hB, rb := h.rb.add hb ⟨A2, c2, y⟩ ho2 (by show y.length ≤ 1000000; omega) h.hB, ri := h.ri.add hb ⟨A3, c3, z⟩ ho3 (by show z.length ≤ 1000000; omega) h.hB }
theorem SoH.addKK (h : SoH w s ps is [] bs wr) (hb : Below wr.heap.size wr w') {A : Option Addr} {c : Nat} {x : List ByteArray} {A2 : Option Addr} {c2 : Nat} {y : List ByteArray} (ht : Two w' wr.heap.size A c x A2 c2 y) (hs : x.length ≤ 1000) (hs2 : y.length ≤ 1000) : SoH w s ps is [⟨A, c, x⟩, ⟨A2, c2, y⟩] bs w' :=
  { h.below hb with rk := (h.rk.add hb ⟨A, c, x⟩ ht.o1 (by show x.length ≤ 1000000; omega) h.hB).more ⟨A2, c2, y⟩ (OR.mono ht.o2 h.hB) (by show y.length ≤ 1000000; omega) (fun s hs => by
      simp at hs
      subst hs
      exact ht.ap) }
theorem SoH.c (h : SoH w s ps is ks bs wr) : wr.cell? ⟨s.gm, 0, none⟩ = some (.slice s.m.A s.m.cs.length s.m.ca) ∧ wr.cell? ⟨s.gm, 1, none⟩ = some (.slice s.m.O s.m.os.length s.m.co) := ⟨h.xm.cell 0 rfl, h.xm.cell 1 rfl⟩
theorem SoH.si (h : SoH w s ps is ks bs wr) : SV wr (some ⟨s.gi, 0, none⟩) (s.l.length + 3) s.l := (h.oi.head (by simp)).sv
theorem SoH.so (h : SoH w s ps is ks bs wr) : SV wr (some ⟨s.go, 0, none⟩) 3 [] := (h.oo.head (by simp)).sv
theorem SoH.sd (h : SoH w s ps is ks bs wr) : OS wr wr.heap.size (some ⟨s.gd, 0, none⟩) s.d := (h.od.head (by simp)).os
theorem SoH.ds (h : SoH w s ps is ks bs wr) : DS wr (some ⟨s.gs, 0, none⟩) [⟨some ⟨s.gd, 0, none⟩, s.d.length + 3, s.d⟩, ⟨some ⟨s.gd, 0, none⟩, s.d.length + 3, s.d⟩] :=
  ⟨VS.of_box h.xs, fun x hx => by
    simp at hx
    subst hx
    exact h.sd⟩
theorem SoH.sp (h : SoH w s ps is ks bs wr) : IS wr (some ⟨s.gp, 0, none⟩) [s.k, s.n] := fun i z hz => by
  have hv := (h.op.head (by simp)).vs
  refine hv i (.int .i64 z) ?_
  match i, hz with
  | 0, hz => simp at hz; subst hz; rfl
  | 1, hz => simp at hz; subst hz; rfl
  | i + 2, hz => simp at hz
end
end Go.Proofs.YtpefdonhacmaoaaGreat
