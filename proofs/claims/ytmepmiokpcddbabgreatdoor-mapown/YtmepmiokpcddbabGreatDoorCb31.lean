/-
  Transactions plainly, rows of one-cell values that are written (no body of the program in it).
  What rokeep.Deeds makes, as valid transactions (no body of the program in it).
  Maps that numbers make; what a change of one store leaves (no body of package parts in it).
  rokeep.MapOwn: what stays while rows are spoilt (no body of the program in it).
  Transactions as Deeds makes them are valid.
  The contract of sort.Slice that the library holds, laid at this dump.
-/
import Derived.Test.YtmepmiokpcddbabGreatDoorCb5
import Derived.Test.YtmepmiokpcddbabGreatDoorCb12
import Derived.Test.YtmepmiokpcddbabGreatDoorCb30
import Derived.Test.YtmepmiokpcddbabGreatDoorCb18
import Derived.Test.YtmepmiokpcddbabGreatDoorCb17
import Derived.Test.YtmepmiokpcddbabGreatDoorCb29
import Derived.Test.YtmepmiokpcddbabGreatDoorCb24
import Derived.Test.YtmepmiokpcddbabGreatDoorCb16
import Derived.Test.YtmepmiokpcddbabGreatDoorCb3
import Derived.Shelf.Strings.SlTrimAscii
import Derived.Shelf.Sort.Plain
import Derived.Shelf.Slices.CompactS
import Derived.Shelf.Slices.CompactI
import Derived.Ground.Names2Prog
import Derived.Ground.NamesProg
import Derived.Test.YtmepmiokpcddbabGreatDoorProg
set_option linter.unusedVariables false
set_option linter.unusedSimpArgs false
namespace Go.Proofs.YtmepmiokpcddbabGreatDoor
open Go.RowKit

/-- the transactions of a list, plainly -/
def ddOf (ds : List Dl) : List (List Opr) := ds.map (·.d)
theorem ddOf_len (ds : List Dl) : (ddOf ds).length = ds.length := by simp [ddOf]
theorem ddOf_get {ds : List Dl} {i : Nat} (h : i < ds.length) : (ddOf ds).getD i [] = ds[i].d := by simp [ddOf, List.getD_eq_getElem?_getD, h]
theorem ddOf_take {ds : List Dl} {k : Nat} (h : k < ds.length) : ddOf (ds.take (k + 1)) = ddOf (ds.take k) ++ [ds[k].d] := by
  unfold ddOf; rw [List.take_succ_eq_append_getElem h, List.map_append]; rfl
theorem getD_set_ (gl : List Bool) {k : Nat} (hk : k < gl.length) (v : Bool) (i : Nat) : (gl.set k v).getD i false = if i = k then v else gl.getD i false := by
  rw [List.getD_eq_getElem?_getD, List.getElem?_set]
  by_cases e : k = i
  · subst e; simp [hk]
  · rw [if_neg e, if_neg fun e' => e e'.symm, List.getD_eq_getElem?_getD]
end Go.Proofs.YtmepmiokpcddbabGreatDoor

set_option linter.unusedVariables false
set_option linter.unusedSimpArgs false
namespace Go.Proofs.YtmepmiokpcddbabGreatDoor
open Go.RowKit

theorem Dds.ds {w : World} {B : Nat} {A : Option Addr} {c : Nat} {ds : List Dl} (h : Dds w B A c ds) : DS w A ds := ⟨h.or.vs, fun x hx => (h.oo x hx).os⟩
theorem Dds.chk {w : World} {B : Nat} {A : Option Addr} {c : Nat} {ds : List Dl} (h : Dds w B A c ds) : ∀ x ∈ ds, chkD x.d = 0 := fun x hx => by
  obtain ⟨h1, h2, h3⟩ := h.good x hx
  exact chkD_zero.2 ⟨h2, by omega, fun o ho => (h1 o ho).chk⟩
end Go.Proofs.YtmepmiokpcddbabGreatDoor

set_option linter.unusedVariables false
set_option linter.unusedSimpArgs false
namespace Go.Proofs.YtmepmiokpcddbabGreatDoor
open Go.RowKit

/-- the map that numbers make -/
def mpC (zs : List Int) : List ByteArray := (mapR zs 6).1
def mpO (zs : List Int) : List Int := (mapR zs 6).2.map fun (k : Nat) => (k : Int)
theorem mp_ok (zs : List Int) : OkM (mpC zs) (mpO zs) := mapR_ok zs
def RetMi (w : World) (zs : List Int) (e : Ending) (w' : World) : Prop :=
  ∃ A ca O co, e = .returned (.agg #[.slice A (mpC zs).length ca, .slice O (mpO zs).length co]) ∧ MO w' w.heap.size ⟨A, ca, mpC zs, O, co, mpO zs⟩ ∧ Below w.heap.size w w'
theorem kmap_is (P : Option Addr) (cp : Nat) (zs : List Int) (w : World) (hP : IS w P zs) (hl : zs.length ≤ 9223372036854775807) :
    Calls Tryz.prog 51 #[.slice P zs.length cp] w (RetMi w zs) := by
  refine (kmap_any P cp zs w hP hl).mono ?_
  rintro e w' ⟨A, ca, O, co, rfl, h1, h2, hb⟩
  refine ⟨A, ca, O, co, by simp only [mpC, mpO, List.length_map], ⟨h1, ?_⟩, hb⟩
  have e : ((mapR zs 6).2.map fun (k : Nat) => (k : Int)).map (Value.int .i64) = nV (mapR zs 6).2 := by simp [nV]
  show OR w' w.heap.size 3 O co ((mpO zs).map (Value.int .i64))
  unfold mpO
  rw [e]; exact h2
theorem Dds.kept {w w' : World} {B : Nat} {A : Option Addr} {c g : Nat} {ds : List Dl} {t : TypeId} (h : Dds w B A c ds) (ht : Ty w g t) (h1 : 24 ≠ t) (h2 : 93 ≠ t) (hg : w.grownBy w' (some g)) : Dds w' B A c ds :=
  ⟨World.ownsRow.kept h.or hg (own_ne h.or ht h1), fun x hx => World.ownsRow.kept (h.oo x hx) hg (own_ne (h.oo x hx) ht h2), h.ap, h.pw, h.good⟩
theorem Dds.below_ {w w' : World} {B : Nat} {A : Option Addr} {c : Nat} {ds : List Dl} (h : Dds w B A c ds) (hb : Below w.heap.size w w') : Dds w' B A c ds :=
  ⟨h.or.below hb, fun x hx => own_below (h.oo x hx) hb, h.ap, h.pw, h.good⟩
theorem MX.kept {w wr w' : World} {gm g : Nat} {m : Mp} (h : MX w gm m wr) (ht : Ty wr g 141) (hl : w.heap.size ≤ g) (hg : wr.grownBy w' (some g)) : MX w gm m w' :=
  ⟨h.x0.kept (ty_ne h.x0.ty ht (by decide)) hg, h.mo.kept ht (by decide) (by decide) hg, Below.kept h.be hl hg⟩
/-- a slice of pairs that lies in no block of a partitioned store -/
structure SN (w : World) (g : Nat) (A : Option Addr) (c : Nat) (l : List Pr) : Prop where
  sv : SV w A c l
  ne : ∀ (i : Nat) (p : Pr), l[i]? = some p → ∀ a, A = some a → a.block ≠ g
theorem SN.of_ov {w : World} {B g : Nat} {A : Option Addr} {c : Nat} {l : List Pr} (h : OV w B A c l) (ht : Ty w g 141) : SN w g A c l := ⟨h.sv, fun i p _ a e1 e2 => by
  subst e1; subst e2
  exact absurd ((own_ty h rfl).inj ht) (by decide)⟩
theorem SN.of_sv {ws w : World} {g : Nat} {A : Option Addr} {c : Nat} {l : List Pr} (h : SV ws A c l) (hb : Below ws.heap.size ws w) (hg : ws.heap.size ≤ g) : SN w g A c l := ⟨h.below hb, fun i p hp a e1 e2 => by
  obtain ⟨b, o, e, hlt, _⟩ := h.ps i p hp
  rw [e1] at e
  injection e with e
  subst e
  simp at e2
  omega⟩
theorem SN.below {w w' : World} {g : Nat} {A : Option Addr} {c : Nat} {l : List Pr} (h : SN w g A c l) (hb : Below w.heap.size w w') : SN w' g A c l := ⟨h.sv.below hb, h.ne⟩
end Go.Proofs.YtmepmiokpcddbabGreatDoor

set_option linter.unusedVariables false
set_option linter.unusedSimpArgs false
namespace Go.Proofs.YtmepmiokpcddbabGreatDoor
open Go.RowKit

/-- what was made, its copies, the Parts -/
structure MoB (w wl : World) (m : Mp) (l : List Pr) (Ba Bf Bg gx gy : Nat) (ks : List SvSF) (is : List SvIF) (ws : List Mp) (Aw : Option Addr) (cw : Nat) (vp vq : Value) (W : World) : Prop where
  rs : MoRs W Ba Bf ks is
  wn : MoWn wl W ks is ws Aw cw
  bk : Box W gx 25 (ks.map SvSF.v).toArray
  bi : Box W gy 26 (is.map SvIF.v).toArray
  p : MoP Bf m l vp W
  q : MoP Bg m l vq W
  be : Below w.heap.size w W
  lo : w.heap.size ≤ Ba ∧ Ba ≤ Bf ∧ Bf ≤ Bg ∧ Bg ≤ wl.heap.size ∧ wl.heap.size ≤ W.heap.size
  lx : Ba ≤ gx ∧ Ba ≤ gy
section
variable {w wl W W' : World} {m : Mp} {l : List Pr} {Ba Bf Bg gx gy cw : Nat} {ks : List SvSF} {is : List SvIF} {ws : List Mp} {Aw : Option Addr} {vp vq : Value}
theorem MoB.below (h : MoB w wl m l Ba Bf Bg gx gy ks is ws Aw cw vp vq W) (hb : Below W.heap.size W W') : MoB w wl m l Ba Bf Bg gx gy ks is ws Aw cw vp vq W' :=
  ⟨h.rs.below hb, h.wn.below hb, h.bk.below hb, h.bi.below hb, h.p.below hb, h.q.below hb, h.be.trans (hb.mono h.be.size), ⟨h.lo.1, h.lo.2.1, h.lo.2.2.1, h.lo.2.2.2.1, Nat.le_trans h.lo.2.2.2.2 hb.size⟩, h.lx⟩
/-- older rows are spoilt -/
theorem MoB.lo_fr {F : Nat → Prop} (h : MoB w wl m l Ba Bf Bg gx gy ks is ws Aw cw vp vq W) (hf : Fr F W W') (hF : ∀ k, F k → w.heap.size ≤ k ∧ k < Ba) : MoB w wl m l Ba Bf Bg gx gy ks is ws Aw cw vp vq W' := by
  obtain ⟨l1, l2, l3, l4, l5⟩ := h.lo
  have n1 : ∀ k, F k → k < Ba := fun k e => (hF k e).2
  exact ⟨h.rs.lo_fr hf n1, h.wn.lo_fr hf (fun k e => by have := n1 k e; omega), hf.box h.bk (fun e => by have := n1 _ e; have := h.lx.1; omega), hf.box h.bi (fun e => by have := n1 _ e; have := h.lx.2; omega),
    h.p.lo_fr hf (fun k e => by have := n1 k e; omega), h.q.lo_fr hf (fun k e => by have := n1 k e; omega), hf.below (fun k e => (hF k e).1) h.be.size h.be, ⟨l1, l2, l3, l4, Nat.le_trans l5 hf.size⟩, h.lx⟩
theorem MoB.apsK (h : MoB w wl m l Ba Bf Bg gx gy ks is ws Aw cw vp vq W) : ApsSF W Ba gx ks := ⟨h.bk, h.rs.k, fun s hs => by have := h.rs.sk s hs; omega, h.rs.apk⟩
/-- behind the check of the cuts -/
theorem MoB.apsI (h : MoB w wl m l Ba Bf Bg gx gy ks is ws Aw cw vp vq W) (hf : Fr (ApBSF ks) W W') : ApsIF W' Ba gy is ∧ MoP Bf m l vp W' ∧ MoP Bg m l vq W' ∧ Below w.heap.size w W' := by
  obtain ⟨l1, l2, l3, l4, l5⟩ := h.lo
  have lt : ∀ k, ApBSF ks k → k < Bf := fun k ⟨s, hs, e⟩ => h.rs.hk s hs k e
  have ty : ∀ k, ApBSF ks k → Ty W k 9 := fun k ⟨s, hs, e⟩ => own_ty (h.rs.k s hs) (by rw [ownBlock_slice]; exact e)
  refine ⟨⟨hf.box h.bi (fun e => absurd ((ty _ e).inj h.bi.ty) (by decide)), fun s hs => hf.own (h.rs.i s hs) (fun k hk e => absurd ((ty _ e).inj (own_ty (h.rs.i s hs) hk)) (by decide)), fun s hs => by have := h.rs.si s hs; omega, h.rs.api⟩,
    h.p.lo_fr hf lt, h.q.lo_fr hf (fun k e => by have := lt k e; omega), hf.below (fun k ⟨s, hs, e⟩ => ?_) h.be.size h.be⟩
  have := (World.ownsRow.lt (h.rs.k s hs) k (by rw [ownBlock_slice]; exact e)).1
  omega
end
/-- behind both checks -/
theorem MoP.apart {w W W' : World} {m : Mp} {l : List Pr} {B Ba Bf gy : Nat} {is : List SvIF} {vp : Value} (h : MoP B m l vp W) (ha : ApsIF W Ba gy is) (hi : ∀ s ∈ is, ∀ k, blk s.A = some k → k < Bf) (hB : Bf ≤ B) (hf : Fr (ApBIF is) W W') : MoP B m l vp W' :=
  h.lo_fr hf fun k ⟨s, hs, e⟩ => by have := hi s hs k e; omega
theorem below_apart {w W W' : World} {Ba gy : Nat} {is : List SvIF} (hb : Below w.heap.size w W) (ha : ApsIF W Ba gy is) (hB : w.heap.size ≤ Ba) (hf : Fr (ApBIF is) W W') : Below w.heap.size w W' :=
  hf.below (fun k ⟨s, hs, e⟩ => by have := (World.ownsRow.lt (ha.ow s hs) k (by rw [ownBlock_slice]; exact e)).1; omega) hb.size hb
theorem dl_caps {w : World} {B : Nat} {D : Option Addr} {c : Nat} {d : List Opr} (h : OO w B D c d) : d.length ≤ c ∧ (D = none → c = 0) := by
  rcases h.2 with ⟨hv, h0⟩ | ⟨g, cap, cur, hv, hB, hbk, h1, h2, _⟩
  · injection hv with e1 e2 e3
    exact ⟨by omega, fun _ => e3⟩
  · injection hv with e1 e2 e3
    exact ⟨by omega, fun e => by rw [e1] at e; cases e⟩
theorem ov_cap {w : World} {B : Nat} {D : Option Addr} {c : Nat} {d : List Pr} (h : OV w B D c d) : c ≤ 9223372036854775807 := by
  rcases h.2 with ⟨hv, h0⟩ | ⟨g, cap, cur, hv, hB, hbk, h1, h2, _⟩
  · injection hv with e1 e2 e3
    omega
  · injection hv with e1 e2 e3
    unfold maxLen at h2
    omega
/-- two Parts of one store, the map to come with its twin, the transactions -/
structure MoF (w : World) (n : Mp) (gp gq gn gt gTS gTI : Nat) (mp mq : Mp) (lp lq : List Pr) (qp qq : Dv) (Ad : Option Addr) (cd : Nat) (ds : List Dl) (W : World) : Prop where
  p : PB W w.heap.size gp mp lp qp
  q : PB W w.heap.size gq mq lq qq
  ne : gp ≠ gq
  t : MoIn w n gt gTS gTI W
  n : MX w gn n W
  d : Dds W w.heap.size Ad cd ds
section
variable {w W W' : World} {n mp mq : Mp} {gp gq gn gt gTS gTI cd : Nat} {lp lq l' : List Pr} {qp qq q' : Dv} {Ad : Option Addr} {ds : List Dl}
theorem MoF.below (h : MoF w n gp gq gn gt gTS gTI mp mq lp lq qp qq Ad cd ds W) (hb : Below W.heap.size W W') : MoF w n gp gq gn gt gTS gTI mp mq lp lq qp qq Ad cd ds W' :=
  ⟨h.p.below hb, h.q.below hb, h.ne, h.t.below hb, h.n.below hb, h.d.below_ hb⟩
theorem MoIn.kept_ {gi gS gI g : Nat} {t : TypeId} (h : MoIn w n gi gS gI W) (ht : Ty W g t) (h1 : 28 ≠ t) (h2 : 9 ≠ t) (h3 : 3 ≠ t) (hg : W.grownBy W' (some g)) : MoIn w n gi gS gI W' :=
  ⟨h.xi.kept (ty_ne h.xi.ty ht h1) hg, h.oS.kept_ ht h2 hg, h.oI.kept_ ht h3 hg⟩
theorem MoF.p_ (h : MoF w n gp gq gn gt gTS gTI mp mq lp lq qp qq Ad cd ds W) (hp : PB W' w.heap.size gp mp l' q') (hg : W.grownBy W' (some gp)) : MoF w n gp gq gn gt gTS gTI mp mq l' lq q' qq Ad cd ds W' :=
  ⟨hp, h.q.kept (fun e => h.ne e.symm) h.p.box.ty (by decide) (by decide) (by decide) hg, h.ne, h.t.kept_ h.p.box.ty (by decide) (by decide) (by decide) hg, h.n.kept h.p.box.ty h.p.low hg, h.d.kept h.p.box.ty (by decide) (by decide) hg⟩
theorem MoF.q_ (h : MoF w n gp gq gn gt gTS gTI mp mq lp lq qp qq Ad cd ds W) (hq : PB W' w.heap.size gq mq l' q') (hg : W.grownBy W' (some gq)) : MoF w n gp gq gn gt gTS gTI mp mq lp l' qp q' Ad cd ds W' :=
  ⟨h.p.kept h.ne h.q.box.ty (by decide) (by decide) (by decide) hg, hq, h.ne, h.t.kept_ h.q.box.ty (by decide) (by decide) (by decide) hg, h.n.kept h.q.box.ty h.q.low hg, h.d.kept h.q.box.ty (by decide) (by decide) hg⟩
/-- rows that stood before a mark -/
structure MoN (N : Nat) (n mp mq : Mp) (gTI : Nat) (ds : List Dl) : Prop where
  o1 : ∀ k, blk mp.O = some k → k < N
  o2 : ∀ k, blk mq.O = some k → k < N
  o3 : ∀ k, blk n.O = some k → k < N
  o4 : gTI < N
  o5 : ∀ x ∈ ds, ∀ k, blk x.D = some k → k < N
theorem MoF.mark (h : MoF w n gp gq gn gt gTS gTI mp mq lp lq qp qq Ad cd ds W) : MoN W.heap.size n mp mq gTI ds :=
  ⟨fun k e => (World.ownsRow.lt h.p.mo.own k (by rw [ownBlock_slice]; exact e)).2, fun k e => (World.ownsRow.lt h.q.mo.own k (by rw [ownBlock_slice]; exact e)).2, fun k e => (World.ownsRow.lt h.n.mo.own k (by rw [ownBlock_slice]; exact e)).2, h.t.lt.2.2,
    fun x hx k e => (World.ownsRow.lt (h.d.oo x hx) k (by rw [ownBlock_slice]; exact e)).2⟩
/-- new rows of operations and numbers are spoilt -/
theorem MoF.fr1 {F : Nat → Prop} {N : Nat} (h : MoF w n gp gq gn gt gTS gTI mp mq lp lq qp qq Ad cd ds W) (hN : MoN N n mp mq gTI ds) (hw : w.heap.size ≤ N) (hf : Fr F W W') (hF : ∀ k, F k → N ≤ k ∧ (Ty W k 93 ∨ Ty W k 3)) : MoF w n gp gq gn gt gTS gTI mp mq lp lq qp qq Ad cd ds W' := by
  have ne : ∀ {k : Nat} {t : TypeId}, Ty W k t → t ≠ 93 → t ≠ 3 → ¬ F k := fun ht n1 n2 e => by
    rcases (hF _ e).2 with h1 | h1
    · exact n1 (ht.inj h1)
    · exact n2 (ht.inj h1)
  have row : ∀ {B : Nat} {t : TypeId} {s k : Nat} {v : Value} {xs : List Value}, W.ownsRow B t s v k xs → t ≠ 93 → t ≠ 3 → W'.ownsRow B t s v k xs := fun ho n1 n2 => hf.own ho fun k hk => ne (own_ty ho hk) n1 n2
  have old : ∀ {B : Nat} {t : TypeId} {s k c : Nat} {A : Option Addr} {xs : List Value}, W.ownsRow B t s (.slice A k c) k xs → (∀ j : Nat, blk A = some j → j < N) → W'.ownsRow B t s (.slice A k c) k xs := fun ho hl => hf.own ho fun j hj e => by
    rw [ownBlock_slice] at hj
    have := hl j hj
    have := (hF j e).1
    omega
  have box : ∀ {g : Nat} {t : TypeId} {cs : Array Value}, Box W g t cs → t ≠ 93 → t ≠ 3 → Box W' g t cs := fun hb n1 n2 => hf.box hb (ne hb.ty n1 n2)
  exact ⟨⟨box h.p.box (by decide) (by decide), ⟨row h.p.mo.cuts (by decide) (by decide), old h.p.mo.own hN.o1⟩, fun j hj => row (h.p.own j hj) (by decide) (by decide), h.p.okm, h.p.ok, h.p.low⟩,
    ⟨box h.q.box (by decide) (by decide), ⟨row h.q.mo.cuts (by decide) (by decide), old h.q.mo.own hN.o2⟩, fun j hj => row (h.q.own j hj) (by decide) (by decide), h.q.okm, h.q.ok, h.q.low⟩, h.ne,
    ⟨box h.t.xi (by decide) (by decide), row h.t.oS (by decide) (by decide), hf.own h.t.oI fun j hj e => by
      rw [ownBlock_slice] at hj
      have e2 : gTI = j := by injection hj
      have := hN.o4
      have := (hF j e).1
      omega⟩,
    ⟨box h.n.x0 (by decide) (by decide), ⟨row h.n.mo.cuts (by decide) (by decide), old h.n.mo.own hN.o3⟩, hf.below (fun k e => Nat.le_trans hw (hF k e).1) h.n.be.size h.n.be⟩,
    ⟨row h.d.or (by decide) (by decide), fun x hx => old (h.d.oo x hx) (hN.o5 x hx), h.d.ap, h.d.pw, h.d.good⟩⟩
end
end Go.Proofs.YtmepmiokpcddbabGreatDoor

set_option linter.unusedVariables false
set_option linter.unusedSimpArgs false
namespace Go.Proofs.YtmepmiokpcddbabGreatDoor
open Go.RowKit

/-- a map as rokeep.Map makes it -/
theorem kmap_mk2 (P : Option Addr) (cp : Nat) (zs : List Int) (w : World) (hP : IS w P zs) (hl : zs.length ≤ 9223372036854775807) :
    Calls Tryz.prog 51 #[.slice P zs.length cp] w fun e w' => ∃ m : Mp, e = .returned (.agg #[.slice m.A m.cs.length m.ca, .slice m.O m.os.length m.co]) ∧ OkM m.cs m.os ∧ MO w' w.heap.size m ∧ Below w.heap.size w w' := by
  refine (kmap_any P cp zs w hP hl).mono ?_
  rintro e w' ⟨A, ca, O, co, rfl, h1, h2, hb⟩
  refine ⟨⟨A, ca, (mapR zs 6).1, O, co, (mapR zs 6).2.map fun (k : Nat) => (k : Int)⟩, by simp only [List.length_map], mapR_ok zs, ⟨h1, ?_⟩, hb⟩
  have e : ((mapR zs 6).2.map fun (k : Nat) => (k : Int)).map (Value.int .i64) = nV (mapR zs 6).2 := by simp [nV]
  simp only
  rw [e]
  exact h2
theorem good_deed {x : Dl} (h : (∀ o ∈ x.d, GoodO o) ∧ 1 ≤ x.d.length ∧ x.d.length ≤ 4) : chkD x.d = 0 := chkD_zero.2 ⟨h.2.1, by have := h.2.2; omega, fun o ho => (h.1 o ho).chk⟩
end Go.Proofs.YtmepmiokpcddbabGreatDoor

namespace Go.Proofs
open Go.Shelf
def Tryz.trim_ren : Go.Shelf.Ren := ⟨fun | 160 => 114 | 232 => 148 | 231 => 147 | 227 => 143 | 234 => 150 | 233 => 149 | 236 => 152 | 235 => 151 | 228 => 144 | 271 => 191 | 151 => 190 | 197 => 180 | 120 => 210 | 152 => 141 | 260 => 206 | 137 => 81 | 119 => 182 | 224 => 183 | 225 => 184 | 217 => 118 | 266 => 154 | n => n, fun | 9 => 9 | 4 => 4 | 3 => 3 | 5 => 5 | 117 => 186 | 116 => 185 | 0 => 0 | 124 => 192 | 21 => 21 | 105 => 216 | 46 => 173 | 119 => 254 | 139 => 257 | 138 => 256 | n => n, fun | 3 => 4 | 4 => 5 | n => n⟩
theorem Tryz.trim : Go.Proofs.Lays.n160 Tryz.prog Tryz.trim_ren := {
  mixed := by kernel_rfl
  f119 := Tryz.func182.trans (congrArg some (by kernel_rfl))
  f120 := Tryz.func210.trans (congrArg some (by kernel_rfl))
  f137 := Tryz.func81.trans (congrArg some (by kernel_rfl))
  f151 := Tryz.func190.trans (congrArg some (by kernel_rfl))
  f152 := Tryz.func141.trans (congrArg some (by kernel_rfl))
  f160 := Tryz.func114.trans (congrArg some (by kernel_rfl))
  f197 := Tryz.func180.trans (congrArg some (by kernel_rfl))
  f217 := Tryz.func118.trans (congrArg some (by kernel_rfl))
  f224 := Tryz.func183.trans (congrArg some (by kernel_rfl))
  f225 := Tryz.func184.trans (congrArg some (by kernel_rfl))
  f227 := Tryz.func143.trans (congrArg some (by kernel_rfl))
  f228 := Tryz.func144.trans (congrArg some (by kernel_rfl))
  f231 := Tryz.func147.trans (congrArg some (by kernel_rfl))
  f232 := Tryz.func148.trans (congrArg some (by kernel_rfl))
  f233 := Tryz.func149.trans (congrArg some (by kernel_rfl))
  f234 := Tryz.func150.trans (congrArg some (by kernel_rfl))
  f235 := Tryz.func151.trans (congrArg some (by kernel_rfl))
  f236 := Tryz.func152.trans (congrArg some (by kernel_rfl))
  f260 := Tryz.func206.trans (congrArg some (by kernel_rfl))
  f266 := Tryz.func154.trans (congrArg some (by kernel_rfl))
  f271 := Tryz.func191.trans (congrArg some (by kernel_rfl))
  t0 := Tryz.underlying0
  a0 := Tryz.isAgg0
  z0 := Tryz.sizeOf0
  v0 := Tryz.zeroValue0
  t3 := Tryz.underlying3
  a3 := Tryz.isAgg3
  z3 := Tryz.sizeOf3
  v3 := Tryz.zeroValue3
  t4 := Tryz.underlying4
  a4 := Tryz.isAgg4
  z4 := Tryz.sizeOf4
  v4 := Tryz.zeroValue4
  t5 := Tryz.underlying5
  a5 := Tryz.isAgg5
  z5 := Tryz.sizeOf5
  v5 := Tryz.zeroValue5
  t9 := Tryz.underlying9
  a9 := Tryz.isAgg9
  z9 := Tryz.sizeOf9
  v9 := Tryz.zeroValue9
  t21 := Tryz.underlying21
  a21 := Tryz.isAgg21
  z21 := Tryz.sizeOf21
  v21 := Tryz.zeroValue21
  t46 := Tryz.underlying173
  a46 := Tryz.isAgg173
  z46 := Tryz.sizeOf173
  v46 := Tryz.zeroValue173
  t105 := Tryz.underlying216
  a105 := Tryz.isAgg216
  z105 := Tryz.sizeOf216
  v105 := Tryz.zeroValue216
  t116 := Tryz.underlying185
  a116 := Tryz.isAgg185
  z116 := Tryz.sizeOf185
  t117 := Tryz.underlying186
  a117 := Tryz.isAgg186
  z117 := Tryz.sizeOf186
  v117 := Tryz.zeroValue186
  t119 := Tryz.underlying254
  a119 := Tryz.isAgg254
  z119 := Tryz.sizeOf254
  t124 := Tryz.underlying192
  a124 := Tryz.isAgg192
  z124 := Tryz.sizeOf192
  v124 := Tryz.zeroValue192
  t138 := Tryz.underlying256
  a138 := Tryz.isAgg256
  z138 := Tryz.sizeOf256
  v138 := Tryz.zeroValue256
  t139 := Tryz.underlying257
  a139 := Tryz.isAgg257
  z139 := Tryz.sizeOf257
  v139 := Tryz.zeroValue257
  g3 := by kernel_rfl
  g4 := by kernel_rfl }
def Tryz.sortS_ren : Go.Shelf.Ren := ⟨fun | 190 => 157 | 125 => 130 | 258 => 193 | 128 => 168 | 129 => 169 | 302 => 212 | 303 => 213 | 304 => 214 | 305 => 215 | 306 => 216 | 307 => 217 | 308 => 218 | 309 => 219 | 310 => 220 | 333 => 227 | 329 => 195 | 330 => 196 | 334 => 228 | 335 => 229 | 336 => 230 | 344 => 234 | n => n, fun | 31 => 25 | 9 => 9 | 3 => 3 | 46 => 173 | 0 => 0 | 51 => 193 | 53 => 134 | 4 => 4 | 183 => 199 | 182 => 198 | 131 => 113 | 5 => 5 | 218 => 228 | 222 => 232 | 228 => 250 | 229 => 251 | n => n, fun | n => n⟩
theorem Tryz.sortS : Go.Proofs.Lays.n190 Tryz.prog Tryz.sortS_ren := {
  mixed := by kernel_rfl
  f125 := Tryz.func130.trans (congrArg some (by kernel_rfl))
  f128 := Tryz.func168.trans (congrArg some (by kernel_rfl))
  f129 := Tryz.func169.trans (congrArg some (by kernel_rfl))
  f190 := Tryz.func157.trans (congrArg some (by kernel_rfl))
  f258 := Tryz.func193.trans (congrArg some (by kernel_rfl))
  f302 := Tryz.func212.trans (congrArg some (by kernel_rfl))
  f303 := Tryz.func213.trans (congrArg some (by kernel_rfl))
  f304 := Tryz.func214.trans (congrArg some (by kernel_rfl))
  f305 := Tryz.func215.trans (congrArg some (by kernel_rfl))
  f306 := Tryz.func216.trans (congrArg some (by kernel_rfl))
  f307 := Tryz.func217.trans (congrArg some (by kernel_rfl))
  f308 := Tryz.func218.trans (congrArg some (by kernel_rfl))
  f309 := Tryz.func219.trans (congrArg some (by kernel_rfl))
  f310 := Tryz.func220.trans (congrArg some (by kernel_rfl))
  f329 := Tryz.func195.trans (congrArg some (by kernel_rfl))
  f330 := Tryz.func196.trans (congrArg some (by kernel_rfl))
  f333 := Tryz.func227.trans (congrArg some (by kernel_rfl))
  f334 := Tryz.func228.trans (congrArg some (by kernel_rfl))
  f335 := Tryz.func229.trans (congrArg some (by kernel_rfl))
  f336 := Tryz.func230.trans (congrArg some (by kernel_rfl))
  f344 := Tryz.func234.trans (congrArg some (by kernel_rfl))
  t0 := Tryz.underlying0
  a0 := Tryz.isAgg0
  z0 := Tryz.sizeOf0
  v0 := Tryz.zeroValue0
  t3 := Tryz.underlying3
  a3 := Tryz.isAgg3
  z3 := Tryz.sizeOf3
  v3 := Tryz.zeroValue3
  t4 := Tryz.underlying4
  a4 := Tryz.isAgg4
  z4 := Tryz.sizeOf4
  v4 := Tryz.zeroValue4
  t5 := Tryz.underlying5
  a5 := Tryz.isAgg5
  z5 := Tryz.sizeOf5
  v5 := Tryz.zeroValue5
  t9 := Tryz.underlying9
  a9 := Tryz.isAgg9
  z9 := Tryz.sizeOf9
  v9 := Tryz.zeroValue9
  t31 := Tryz.underlying25
  a31 := Tryz.isAgg25
  z31 := Tryz.sizeOf25
  v31 := Tryz.zeroValue25
  t46 := Tryz.underlying173
  a46 := Tryz.isAgg173
  z46 := Tryz.sizeOf173
  v46 := Tryz.zeroValue173
  t51 := Tryz.underlying193
  a51 := Tryz.isAgg193
  z51 := Tryz.sizeOf193
  v51 := Tryz.zeroValue193
  t53 := Tryz.underlying134
  a53 := Tryz.isAgg134
  z53 := Tryz.sizeOf134
  v53 := Tryz.zeroValue134
  t131 := Tryz.underlying113
  a131 := Tryz.isAgg113
  z131 := Tryz.sizeOf113
  v131 := Tryz.zeroValue113
  t182 := Tryz.underlying198
  a182 := Tryz.isAgg198
  z182 := Tryz.sizeOf198
  v182 := Tryz.zeroValue198
  t183 := Tryz.underlying199
  a183 := Tryz.isAgg199
  z183 := Tryz.sizeOf199
  v183 := Tryz.zeroValue199
  t218 := Tryz.underlying228
  a218 := Tryz.isAgg228
  z218 := Tryz.sizeOf228
  v218 := Tryz.zeroValue228
  t222 := Tryz.underlying232
  a222 := Tryz.isAgg232
  z222 := Tryz.sizeOf232
  v222 := Tryz.zeroValue232
  t228 := Tryz.underlying250
  a228 := Tryz.isAgg250
  z228 := Tryz.sizeOf250
  v228 := Tryz.zeroValue250
  t229 := Tryz.underlying251
  a229 := Tryz.isAgg251
  z229 := Tryz.sizeOf251
  v229 := Tryz.zeroValue251 }
def Tryz.compS_ren : Go.Shelf.Ren := ⟨fun | 194 => 158 | n => n, fun | 31 => 25 | 9 => 9 | 3 => 3 | 4 => 4 | 0 => 0 | n => n, fun | n => n⟩
theorem Tryz.compS : Go.Proofs.Lays.n194 Tryz.prog Tryz.compS_ren := {
  mixed := by kernel_rfl
  f194 := Tryz.func158.trans (congrArg some (by kernel_rfl))
  t0 := Tryz.underlying0
  a0 := Tryz.isAgg0
  z0 := Tryz.sizeOf0
  v0 := Tryz.zeroValue0
  t3 := Tryz.underlying3
  a3 := Tryz.isAgg3
  z3 := Tryz.sizeOf3
  v3 := Tryz.zeroValue3
  t4 := Tryz.underlying4
  a4 := Tryz.isAgg4
  z4 := Tryz.sizeOf4
  v4 := Tryz.zeroValue4
  t9 := Tryz.underlying9
  a9 := Tryz.isAgg9
  z9 := Tryz.sizeOf9
  v9 := Tryz.zeroValue9
  t31 := Tryz.underlying25
  a31 := Tryz.isAgg25
  z31 := Tryz.sizeOf25
  v31 := Tryz.zeroValue25 }
def Tryz.sortI_ren : Go.Shelf.Ren := ⟨fun | 189 => 98 | 125 => 130 | 257 => 129 | 128 => 168 | 129 => 169 | 294 => 159 | 295 => 160 | 296 => 161 | 297 => 162 | 298 => 163 | 299 => 164 | 216 => 165 | 300 => 166 | 301 => 167 | 328 => 194 | 329 => 195 | 330 => 196 | 331 => 197 | 332 => 198 | 215 => 199 | 343 => 221 | n => n, fun | 28 => 26 | 3 => 3 | 46 => 173 | 0 => 0 | 51 => 193 | 53 => 134 | 4 => 4 | 183 => 199 | 182 => 198 | 131 => 113 | 5 => 5 | 9 => 9 | 218 => 228 | 222 => 232 | 228 => 250 | 229 => 251 | n => n, fun | n => n⟩
theorem Tryz.sortI : Go.Proofs.Lays.n189 Tryz.prog Tryz.sortI_ren := {
  mixed := by kernel_rfl
  f125 := Tryz.func130.trans (congrArg some (by kernel_rfl))
  f128 := Tryz.func168.trans (congrArg some (by kernel_rfl))
  f129 := Tryz.func169.trans (congrArg some (by kernel_rfl))
  f189 := Tryz.func98.trans (congrArg some (by kernel_rfl))
  f215 := Tryz.func199.trans (congrArg some (by kernel_rfl))
  f216 := Tryz.func165.trans (congrArg some (by kernel_rfl))
  f257 := Tryz.func129.trans (congrArg some (by kernel_rfl))
  f294 := Tryz.func159.trans (congrArg some (by kernel_rfl))
  f295 := Tryz.func160.trans (congrArg some (by kernel_rfl))
  f296 := Tryz.func161.trans (congrArg some (by kernel_rfl))
  f297 := Tryz.func162.trans (congrArg some (by kernel_rfl))
  f298 := Tryz.func163.trans (congrArg some (by kernel_rfl))
  f299 := Tryz.func164.trans (congrArg some (by kernel_rfl))
  f300 := Tryz.func166.trans (congrArg some (by kernel_rfl))
  f301 := Tryz.func167.trans (congrArg some (by kernel_rfl))
  f328 := Tryz.func194.trans (congrArg some (by kernel_rfl))
  f329 := Tryz.func195.trans (congrArg some (by kernel_rfl))
  f330 := Tryz.func196.trans (congrArg some (by kernel_rfl))
  f331 := Tryz.func197.trans (congrArg some (by kernel_rfl))
  f332 := Tryz.func198.trans (congrArg some (by kernel_rfl))
  f343 := Tryz.func221.trans (congrArg some (by kernel_rfl))
  t0 := Tryz.underlying0
  a0 := Tryz.isAgg0
  z0 := Tryz.sizeOf0
  v0 := Tryz.zeroValue0
  t3 := Tryz.underlying3
  a3 := Tryz.isAgg3
  z3 := Tryz.sizeOf3
  v3 := Tryz.zeroValue3
  t4 := Tryz.underlying4
  a4 := Tryz.isAgg4
  z4 := Tryz.sizeOf4
  v4 := Tryz.zeroValue4
  t5 := Tryz.underlying5
  a5 := Tryz.isAgg5
  z5 := Tryz.sizeOf5
  v5 := Tryz.zeroValue5
  t9 := Tryz.underlying9
  a9 := Tryz.isAgg9
  z9 := Tryz.sizeOf9
  v9 := Tryz.zeroValue9
  t28 := Tryz.underlying26
  a28 := Tryz.isAgg26
  z28 := Tryz.sizeOf26
  v28 := Tryz.zeroValue26
  t46 := Tryz.underlying173
  a46 := Tryz.isAgg173
  z46 := Tryz.sizeOf173
  v46 := Tryz.zeroValue173
  t51 := Tryz.underlying193
  a51 := Tryz.isAgg193
  z51 := Tryz.sizeOf193
  v51 := Tryz.zeroValue193
  t53 := Tryz.underlying134
  a53 := Tryz.isAgg134
  z53 := Tryz.sizeOf134
  v53 := Tryz.zeroValue134
  t131 := Tryz.underlying113
  a131 := Tryz.isAgg113
  z131 := Tryz.sizeOf113
  v131 := Tryz.zeroValue113
  t182 := Tryz.underlying198
  a182 := Tryz.isAgg198
  z182 := Tryz.sizeOf198
  v182 := Tryz.zeroValue198
  t183 := Tryz.underlying199
  a183 := Tryz.isAgg199
  z183 := Tryz.sizeOf199
  v183 := Tryz.zeroValue199
  t218 := Tryz.underlying228
  a218 := Tryz.isAgg228
  z218 := Tryz.sizeOf228
  v218 := Tryz.zeroValue228
  t222 := Tryz.underlying232
  a222 := Tryz.isAgg232
  z222 := Tryz.sizeOf232
  v222 := Tryz.zeroValue232
  t228 := Tryz.underlying250
  a228 := Tryz.isAgg250
  z228 := Tryz.sizeOf250
  v228 := Tryz.zeroValue250
  t229 := Tryz.underlying251
  a229 := Tryz.isAgg251
  z229 := Tryz.sizeOf251
  v229 := Tryz.zeroValue251 }
def Tryz.compI_ren : Go.Shelf.Ren := ⟨fun | 20 => 99 | n => n, fun | 22 => 26 | 3 => 3 | 4 => 4 | 0 => 0 | n => n, fun | n => n⟩
theorem Tryz.compI : Go.Proofs.Lays2.n20 Tryz.prog Tryz.compI_ren := {
  mixed := by kernel_rfl
  f20 := Tryz.func99.trans (congrArg some (by kernel_rfl))
  t0 := Tryz.underlying0
  a0 := Tryz.isAgg0
  z0 := Tryz.sizeOf0
  v0 := Tryz.zeroValue0
  t3 := Tryz.underlying3
  a3 := Tryz.isAgg3
  z3 := Tryz.sizeOf3
  v3 := Tryz.zeroValue3
  t4 := Tryz.underlying4
  a4 := Tryz.isAgg4
  z4 := Tryz.sizeOf4
  v4 := Tryz.zeroValue4
  t22 := Tryz.underlying26
  a22 := Tryz.isAgg26
  z22 := Tryz.sizeOf26
  v22 := Tryz.zeroValue26
  i3 := by kernel_rfl }
end Go.Proofs
