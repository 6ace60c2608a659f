/-
  Transactions as Deeds makes them are valid.
  rokeep.Map in other words; rokeep.Key.
  Transactions plainly, rows of one-cell values that are written (no body of the program in it).
  What rokeep.Deeds makes, as valid transactions (no body of the program in it).
  Maps that numbers make; what a change of one store leaves (no body of package parts in it).
  The contract of sort.Slice that the library holds, laid at this dump.
-/
import Derived.Test.YtefdipjhjgmokaaGreatBv34
import Derived.Test.YtefdipjhjgmokaaGreatBv2
import Derived.Test.YtefdipjhjgmokaaGreatBv36
import Derived.Test.YtefdipjhjgmokaaGreatBv35
import Derived.Test.YtefdipjhjgmokaaGreatBv9
import Derived.Test.YtefdipjhjgmokaaGreatBv3
import Derived.Test.YtefdipjhjgmokaaGreatBv31
import Derived.Test.YtefdipjhjgmokaaGreatBv12
import Derived.Test.YtefdipjhjgmokaaGreatBv13
import Derived.Shelf.Sort.Plain
import Derived.Shelf.Slices.CompactS
import Derived.Ground.NamesProg
import Derived.Shelf.SlSortFuncK.WholeK
import Derived.Ground.GgsProg
import Derived.Test.YtefdipjhjgmokaaGreatProg
set_option linter.unusedVariables false
set_option linter.unusedSimpArgs false
namespace Go.Proofs.YtefdipjhjgmokaaGreat
open Go.RowKit

/-- a map as rokeep.Map makes it -/
theorem kmap_mk2 (P : Option Addr) (cp : Nat) (zs : List Int) (w : World) (hP : IS w P zs) (hl : zs.length ≤ 9223372036854775807) :
    Calls Tryz.prog 16 #[.slice P zs.length cp] w fun e w' => ∃ m : Mp, e = .returned (.agg #[.slice m.A m.cs.length m.ca, .slice m.O m.os.length m.co]) ∧ OkM m.cs m.os ∧ MO w' w.heap.size m ∧ Below w.heap.size w w' := by
  refine (kmap_any P cp zs w hP hl).mono ?_
  rintro e w' ⟨A, ca, O, co, rfl, h1, h2, hb⟩
  refine ⟨⟨A, ca, (mapR zs 6).1, O, co, (mapR zs 6).2.map fun (k : Nat) => (k : Int)⟩, by simp only [List.length_map], mapR_ok zs, ⟨h1, ?_⟩, hb⟩
  have e : ((mapR zs 6).2.map fun (k : Nat) => (k : Int)).map (Value.int .i64) = nV (mapR zs 6).2 := by simp [nV]
  simp only
  rw [e]
  exact h2
theorem good_deed {x : Dl} (h : (∀ o ∈ x.d, GoodO o) ∧ 1 ≤ x.d.length ∧ x.d.length ≤ 4) : chkD x.d = 0 := chkD_zero.2 ⟨h.2.1, by have := h.2.2; omega, fun o ho => (h.1 o ho).chk⟩
end Go.Proofs.YtefdipjhjgmokaaGreat

set_option linter.unusedVariables false
set_option linter.unusedSimpArgs false
namespace Go.Proofs.YtefdipjhjgmokaaGreat
open Go.RowKit

/-- a map is handed back, a valid one with few cuts -/
def RetMk (w : World) (e : Ending) (w' : World) : Prop := ∃ m : Mp, e = .returned (.agg #[.slice m.A m.cs.length m.ca, .slice m.O m.os.length m.co]) ∧ OkM m.cs m.os ∧ m.cs.length ≤ 6 ∧ MO w' w.heap.size m ∧ Below w.heap.size w w'
theorem kmap_mk (P : Option Addr) (cp : Nat) (zs : List Int) (w : World) (hP : IS w P zs) (hl : zs.length ≤ 9223372036854775807) :
    Calls Tryz.prog 16 #[.slice P zs.length cp] w (RetMk w) := by
  refine (kmap_any P cp zs w hP hl).mono ?_
  rintro e w' ⟨A, ca, O, co, rfl, h1, h2, hb⟩
  refine ⟨⟨A, ca, (mapR zs 6).1, O, co, (mapR zs 6).2.map fun (k : Nat) => (k : Int)⟩, by simp only [List.length_map], mapR_ok zs, mapR_few zs 6, ⟨h1, ?_⟩, hb⟩
  have e : ((mapR zs 6).2.map fun (k : Nat) => (k : Int)).map (Value.int .i64) = nV (mapR zs 6).2 := by simp [nV]
  show OR w' w.heap.size 3 O co (((mapR zs 6).2.map fun (k : Nat) => (k : Int)).map (Value.int .i64))
  rw [e]; exact h2
theorem rkey_be (k : Int) (w : World) : Calls Tryz.prog 33 #[.int .i64 k] w fun e w' => e = .returned (.string (keyN (wi k 8))) ∧ Below w.heap.size w w' := by
  refine (rkey_any k w).mono ?_
  rintro e w' ⟨rfl, rfl⟩
  exact ⟨rfl, (Below.refl _ _).alloc (Nat.le_refl _) _⟩
end Go.Proofs.YtefdipjhjgmokaaGreat

set_option linter.unusedVariables false
set_option linter.unusedSimpArgs false
namespace Go.Proofs.YtefdipjhjgmokaaGreat
open Go.RowKit

/-- the transactions of a list, plainly -/
def ddOf (ds : List Dl) : List (List Opr) := ds.map (·.d)
theorem ddOf_len (ds : List Dl) : (ddOf ds).length = ds.length := by simp [ddOf]
theorem ddOf_get {ds : List Dl} {i : Nat} (h : i < ds.length) : (ddOf ds).getD i [] = ds[i].d := by simp [ddOf, List.getD_eq_getElem?_getD, h]
theorem ddOf_take {ds : List Dl} {k : Nat} (h : k < ds.length) : ddOf (ds.take (k + 1)) = ddOf (ds.take k) ++ [ds[k].d] := by
  unfold ddOf; rw [List.take_succ_eq_append_getElem h, List.map_append]; rfl
theorem getD_set_ (gl : List Bool) {k : Nat} (hk : k < gl.length) (v : Bool) (i : Nat) : (gl.set k v).getD i false = if i = k then v else gl.getD i false := by
  rw [List.getD_eq_getElem?_getD, List.getElem?_set]
  by_cases e : k = i
  · subst e; simp [hk]
  · rw [if_neg e, if_neg fun e' => e e'.symm, List.getD_eq_getElem?_getD]
end Go.Proofs.YtefdipjhjgmokaaGreat

set_option linter.unusedVariables false
set_option linter.unusedSimpArgs false
namespace Go.Proofs.YtefdipjhjgmokaaGreat
open Go.RowKit

theorem Dds.ds {w : World} {B : Nat} {A : Option Addr} {c : Nat} {ds : List Dl} (h : Dds w B A c ds) : DS w A ds := ⟨h.or.vs, fun x hx => (h.oo x hx).os⟩
theorem Dds.chk {w : World} {B : Nat} {A : Option Addr} {c : Nat} {ds : List Dl} (h : Dds w B A c ds) : ∀ x ∈ ds, chkD x.d = 0 := fun x hx => by
  obtain ⟨h1, h2, h3⟩ := h.good x hx
  exact chkD_zero.2 ⟨h2, by omega, fun o ho => (h1 o ho).chk⟩
end Go.Proofs.YtefdipjhjgmokaaGreat

set_option linter.unusedVariables false
set_option linter.unusedSimpArgs false
namespace Go.Proofs.YtefdipjhjgmokaaGreat
open Go.RowKit

/-- the map that numbers make -/
def mpC (zs : List Int) : List ByteArray := (mapR zs 6).1
def mpO (zs : List Int) : List Int := (mapR zs 6).2.map fun (k : Nat) => (k : Int)
theorem mp_ok (zs : List Int) : OkM (mpC zs) (mpO zs) := mapR_ok zs
def RetMi (w : World) (zs : List Int) (e : Ending) (w' : World) : Prop :=
  ∃ A ca O co, e = .returned (.agg #[.slice A (mpC zs).length ca, .slice O (mpO zs).length co]) ∧ MO w' w.heap.size ⟨A, ca, mpC zs, O, co, mpO zs⟩ ∧ Below w.heap.size w w'
theorem kmap_is (P : Option Addr) (cp : Nat) (zs : List Int) (w : World) (hP : IS w P zs) (hl : zs.length ≤ 9223372036854775807) :
    Calls Tryz.prog 16 #[.slice P zs.length cp] w (RetMi w zs) := by
  refine (kmap_any P cp zs w hP hl).mono ?_
  rintro e w' ⟨A, ca, O, co, rfl, h1, h2, hb⟩
  refine ⟨A, ca, O, co, by simp only [mpC, mpO, List.length_map], ⟨h1, ?_⟩, hb⟩
  have e : ((mapR zs 6).2.map fun (k : Nat) => (k : Int)).map (Value.int .i64) = nV (mapR zs 6).2 := by simp [nV]
  show OR w' w.heap.size 3 O co ((mpO zs).map (Value.int .i64))
  unfold mpO
  rw [e]; exact h2
theorem Dds.kept {w w' : World} {B : Nat} {A : Option Addr} {c g : Nat} {ds : List Dl} {t : TypeId} (h : Dds w B A c ds) (ht : Ty w g t) (h1 : 32 ≠ t) (h2 : 106 ≠ t) (hg : w.grownBy w' (some g)) : Dds w' B A c ds :=
  ⟨World.ownsRow.kept h.or hg (own_ne h.or ht h1), fun x hx => World.ownsRow.kept (h.oo x hx) hg (own_ne (h.oo x hx) ht h2), h.ap, h.pw, h.good⟩
theorem Dds.below_ {w w' : World} {B : Nat} {A : Option Addr} {c : Nat} {ds : List Dl} (h : Dds w B A c ds) (hb : Below w.heap.size w w') : Dds w' B A c ds :=
  ⟨h.or.below hb, fun x hx => own_below (h.oo x hx) hb, h.ap, h.pw, h.good⟩
theorem MX.kept {w wr w' : World} {gm g : Nat} {m : Mp} (h : MX w gm m wr) (ht : Ty wr g 120) (hl : w.heap.size ≤ g) (hg : wr.grownBy w' (some g)) : MX w gm m w' :=
  ⟨h.x0.kept (ty_ne h.x0.ty ht (by decide)) hg, h.mo.kept ht (by decide) (by decide) hg, Below.kept h.be hl hg⟩
/-- a slice of pairs that lies in no block of a partitioned store -/
structure SN (w : World) (g : Nat) (A : Option Addr) (c : Nat) (l : List Pr) : Prop where
  sv : SV w A c l
  ne : ∀ (i : Nat) (p : Pr), l[i]? = some p → ∀ a, A = some a → a.block ≠ g
theorem SN.of_ov {w : World} {B g : Nat} {A : Option Addr} {c : Nat} {l : List Pr} (h : OV w B A c l) (ht : Ty w g 120) : SN w g A c l := ⟨h.sv, fun i p _ a e1 e2 => by
  subst e1; subst e2
  exact absurd ((own_ty h rfl).inj ht) (by decide)⟩
theorem SN.of_sv {ws w : World} {g : Nat} {A : Option Addr} {c : Nat} {l : List Pr} (h : SV ws A c l) (hb : Below ws.heap.size ws w) (hg : ws.heap.size ≤ g) : SN w g A c l := ⟨h.below hb, fun i p hp a e1 e2 => by
  obtain ⟨b, o, e, hlt, _⟩ := h.ps i p hp
  rw [e1] at e
  injection e with e
  subst e
  simp at e2
  omega⟩
theorem SN.below {w w' : World} {g : Nat} {A : Option Addr} {c : Nat} {l : List Pr} (h : SN w g A c l) (hb : Below w.heap.size w w') : SN w' g A c l := ⟨h.sv.below hb, h.ne⟩
end Go.Proofs.YtefdipjhjgmokaaGreat

namespace Go.Proofs
open Go.Shelf
def Tryz.sv6_ren : Go.Shelf.Ren := ⟨fun | 6 => 63 | 10 => 92 | 11 => 93 | 12 => 94 | 13 => 95 | 14 => 96 | 24 => 125 | 25 => 126 | 26 => 127 | 27 => 128 | 28 => 129 | 29 => 130 | 30 => 131 | 31 => 132 | 32 => 133 | 33 => 134 | 34 => 139 | 35 => 140 | 36 => 141 | 37 => 142 | 38 => 143 | 39 => 153 | n => n, fun | 20 => 20 | 26 => 145 | 35 => 176 | 0 => 0 | 37 => 178 | 3 => 3 | 41 => 181 | 44 => 184 | 49 => 205 | 51 => 99 | 4 => 4 | 54 => 209 | 53 => 208 | 58 => 97 | 5 => 5 | 9 => 9 | 60 => 216 | 64 => 220 | 66 => 230 | 67 => 231 | 17 => 17 | 32 => 173 | 33 => 174 | 82 => 251 | 12 => 12 | 75 => 244 | 76 => 245 | 77 => 246 | 78 => 247 | 79 => 248 | 80 => 249 | n => n, fun | n => n⟩
theorem Tryz.sv6 : Go.Proofs.LaysGg.n6 Tryz.prog Tryz.sv6_ren := {
  mixed := by kernel_rfl
  f6 := Tryz.func63.trans (congrArg some (by kernel_rfl))
  f10 := Tryz.func92.trans (congrArg some (by kernel_rfl))
  f11 := Tryz.func93.trans (congrArg some (by kernel_rfl))
  f12 := Tryz.func94.trans (congrArg some (by kernel_rfl))
  f13 := Tryz.func95.trans (congrArg some (by kernel_rfl))
  f14 := Tryz.func96.trans (congrArg some (by kernel_rfl))
  f24 := Tryz.func125.trans (congrArg some (by kernel_rfl))
  f25 := Tryz.func126.trans (congrArg some (by kernel_rfl))
  f26 := Tryz.func127.trans (congrArg some (by kernel_rfl))
  f27 := Tryz.func128.trans (congrArg some (by kernel_rfl))
  f28 := Tryz.func129.trans (congrArg some (by kernel_rfl))
  f29 := Tryz.func130.trans (congrArg some (by kernel_rfl))
  f30 := Tryz.func131.trans (congrArg some (by kernel_rfl))
  f31 := Tryz.func132.trans (congrArg some (by kernel_rfl))
  f32 := Tryz.func133.trans (congrArg some (by kernel_rfl))
  f33 := Tryz.func134.trans (congrArg some (by kernel_rfl))
  f34 := Tryz.func139.trans (congrArg some (by kernel_rfl))
  f35 := Tryz.func140.trans (congrArg some (by kernel_rfl))
  f36 := Tryz.func141.trans (congrArg some (by kernel_rfl))
  f37 := Tryz.func142.trans (congrArg some (by kernel_rfl))
  f38 := Tryz.func143.trans (congrArg some (by kernel_rfl))
  f39 := Tryz.func153.trans (congrArg some (by kernel_rfl))
  t0 := Tryz.underlying0
  a0 := Tryz.isAgg0
  z0 := Tryz.sizeOf0
  v0 := Tryz.zeroValue0
  i0 := by kernel_rfl
  t3 := Tryz.underlying3
  a3 := Tryz.isAgg3
  z3 := Tryz.sizeOf3
  v3 := Tryz.zeroValue3
  i3 := by kernel_rfl
  t4 := Tryz.underlying4
  a4 := Tryz.isAgg4
  z4 := Tryz.sizeOf4
  v4 := Tryz.zeroValue4
  i4 := by kernel_rfl
  t5 := Tryz.underlying5
  a5 := Tryz.isAgg5
  z5 := Tryz.sizeOf5
  v5 := Tryz.zeroValue5
  i5 := by kernel_rfl
  t9 := Tryz.underlying9
  a9 := Tryz.isAgg9
  z9 := Tryz.sizeOf9
  v9 := Tryz.zeroValue9
  i9 := by kernel_rfl
  t12 := Tryz.underlying12
  a12 := Tryz.isAgg12
  z12 := Tryz.sizeOf12
  v12 := Tryz.zeroValue12
  i12 := by kernel_rfl
  t17 := Tryz.underlying17
  a17 := Tryz.isAgg17
  z17 := Tryz.sizeOf17
  v17 := Tryz.zeroValue17
  i17 := by kernel_rfl
  t20 := Tryz.underlying20
  a20 := Tryz.isAgg20
  z20 := Tryz.sizeOf20
  v20 := Tryz.zeroValue20
  i20 := by kernel_rfl
  t26 := Tryz.underlying145
  a26 := Tryz.isAgg145
  z26 := Tryz.sizeOf145
  v26 := Tryz.zeroValue145
  i26 := by kernel_rfl
  t32 := Tryz.underlying173
  a32 := Tryz.isAgg173
  z32 := Tryz.sizeOf173
  v32 := Tryz.zeroValue173
  i32 := by kernel_rfl
  t33 := Tryz.underlying174
  a33 := Tryz.isAgg174
  z33 := Tryz.sizeOf174
  v33 := Tryz.zeroValue174
  i33 := by kernel_rfl
  t35 := Tryz.underlying176
  a35 := Tryz.isAgg176
  z35 := Tryz.sizeOf176
  v35 := Tryz.zeroValue176
  i35 := by kernel_rfl
  t37 := Tryz.underlying178
  a37 := Tryz.isAgg178
  z37 := Tryz.sizeOf178
  v37 := Tryz.zeroValue178
  i37 := by kernel_rfl
  t41 := Tryz.underlying181
  a41 := Tryz.isAgg181
  z41 := Tryz.sizeOf181
  v41 := Tryz.zeroValue181
  i41 := by kernel_rfl
  t44 := Tryz.underlying184
  a44 := Tryz.isAgg184
  z44 := Tryz.sizeOf184
  v44 := Tryz.zeroValue184
  i44 := by kernel_rfl
  t49 := Tryz.underlying205
  a49 := Tryz.isAgg205
  z49 := Tryz.sizeOf205
  v49 := Tryz.zeroValue205
  i49 := by kernel_rfl
  t51 := Tryz.underlying99
  a51 := Tryz.isAgg99
  z51 := Tryz.sizeOf99
  v51 := Tryz.zeroValue99
  i51 := by kernel_rfl
  t53 := Tryz.underlying208
  a53 := Tryz.isAgg208
  z53 := Tryz.sizeOf208
  v53 := Tryz.zeroValue208
  i53 := by kernel_rfl
  t54 := Tryz.underlying209
  a54 := Tryz.isAgg209
  z54 := Tryz.sizeOf209
  v54 := Tryz.zeroValue209
  i54 := by kernel_rfl
  t58 := Tryz.underlying97
  a58 := Tryz.isAgg97
  z58 := Tryz.sizeOf97
  v58 := Tryz.zeroValue97
  i58 := by kernel_rfl
  t60 := Tryz.underlying216
  a60 := Tryz.isAgg216
  z60 := Tryz.sizeOf216
  v60 := Tryz.zeroValue216
  i60 := by kernel_rfl
  t64 := Tryz.underlying220
  a64 := Tryz.isAgg220
  z64 := Tryz.sizeOf220
  v64 := Tryz.zeroValue220
  i64 := by kernel_rfl
  t66 := Tryz.underlying230
  a66 := Tryz.isAgg230
  z66 := Tryz.sizeOf230
  v66 := Tryz.zeroValue230
  i66 := by kernel_rfl
  t67 := Tryz.underlying231
  a67 := Tryz.isAgg231
  z67 := Tryz.sizeOf231
  v67 := Tryz.zeroValue231
  i67 := by kernel_rfl
  t75 := Tryz.underlying244
  a75 := Tryz.isAgg244
  z75 := Tryz.sizeOf244
  v75 := Tryz.zeroValue244
  i75 := by kernel_rfl
  t76 := Tryz.underlying245
  a76 := Tryz.isAgg245
  z76 := Tryz.sizeOf245
  v76 := Tryz.zeroValue245
  i76 := by kernel_rfl
  t77 := Tryz.underlying246
  a77 := Tryz.isAgg246
  z77 := Tryz.sizeOf246
  v77 := Tryz.zeroValue246
  i77 := by kernel_rfl
  t78 := Tryz.underlying247
  a78 := Tryz.isAgg247
  z78 := Tryz.sizeOf247
  v78 := Tryz.zeroValue247
  i78 := by kernel_rfl
  t79 := Tryz.underlying248
  a79 := Tryz.isAgg248
  z79 := Tryz.sizeOf248
  v79 := Tryz.zeroValue248
  i79 := by kernel_rfl
  t80 := Tryz.underlying249
  a80 := Tryz.isAgg249
  z80 := Tryz.sizeOf249
  v80 := Tryz.zeroValue249
  i80 := by kernel_rfl
  t82 := Tryz.underlying251
  a82 := Tryz.isAgg251
  z82 := Tryz.sizeOf251
  v82 := Tryz.zeroValue251
  i82 := by kernel_rfl }
def Tryz.sortS_ren : Go.Shelf.Ren := ⟨fun | 190 => 108 | 125 => 95 | 258 => 137 | 128 => 125 | 129 => 126 | 302 => 144 | 303 => 145 | 304 => 146 | 305 => 147 | 306 => 148 | 307 => 149 | 308 => 150 | 309 => 151 | 310 => 152 | 333 => 154 | 329 => 155 | 330 => 156 | 334 => 157 | 335 => 158 | 336 => 159 | 344 => 160 | n => n, fun | 31 => 33 | 9 => 9 | 3 => 3 | 46 => 181 | 0 => 0 | 51 => 205 | 53 => 99 | 4 => 4 | 183 => 224 | 182 => 223 | 131 => 97 | 5 => 5 | 218 => 233 | 222 => 220 | 228 => 236 | 229 => 231 | n => n, fun | n => n⟩
theorem Tryz.sortS : Go.Proofs.Lays.n190 Tryz.prog Tryz.sortS_ren := {
  mixed := by kernel_rfl
  f125 := Tryz.func95.trans (congrArg some (by kernel_rfl))
  f128 := Tryz.func125.trans (congrArg some (by kernel_rfl))
  f129 := Tryz.func126.trans (congrArg some (by kernel_rfl))
  f190 := Tryz.func108.trans (congrArg some (by kernel_rfl))
  f258 := Tryz.func137.trans (congrArg some (by kernel_rfl))
  f302 := Tryz.func144.trans (congrArg some (by kernel_rfl))
  f303 := Tryz.func145.trans (congrArg some (by kernel_rfl))
  f304 := Tryz.func146.trans (congrArg some (by kernel_rfl))
  f305 := Tryz.func147.trans (congrArg some (by kernel_rfl))
  f306 := Tryz.func148.trans (congrArg some (by kernel_rfl))
  f307 := Tryz.func149.trans (congrArg some (by kernel_rfl))
  f308 := Tryz.func150.trans (congrArg some (by kernel_rfl))
  f309 := Tryz.func151.trans (congrArg some (by kernel_rfl))
  f310 := Tryz.func152.trans (congrArg some (by kernel_rfl))
  f329 := Tryz.func155.trans (congrArg some (by kernel_rfl))
  f330 := Tryz.func156.trans (congrArg some (by kernel_rfl))
  f333 := Tryz.func154.trans (congrArg some (by kernel_rfl))
  f334 := Tryz.func157.trans (congrArg some (by kernel_rfl))
  f335 := Tryz.func158.trans (congrArg some (by kernel_rfl))
  f336 := Tryz.func159.trans (congrArg some (by kernel_rfl))
  f344 := Tryz.func160.trans (congrArg some (by kernel_rfl))
  t0 := Tryz.underlying0
  a0 := Tryz.isAgg0
  z0 := Tryz.sizeOf0
  v0 := Tryz.zeroValue0
  t3 := Tryz.underlying3
  a3 := Tryz.isAgg3
  z3 := Tryz.sizeOf3
  v3 := Tryz.zeroValue3
  t4 := Tryz.underlying4
  a4 := Tryz.isAgg4
  z4 := Tryz.sizeOf4
  v4 := Tryz.zeroValue4
  t5 := Tryz.underlying5
  a5 := Tryz.isAgg5
  z5 := Tryz.sizeOf5
  v5 := Tryz.zeroValue5
  t9 := Tryz.underlying9
  a9 := Tryz.isAgg9
  z9 := Tryz.sizeOf9
  v9 := Tryz.zeroValue9
  t31 := Tryz.underlying33
  a31 := Tryz.isAgg33
  z31 := Tryz.sizeOf33
  v31 := Tryz.zeroValue33
  t46 := Tryz.underlying181
  a46 := Tryz.isAgg181
  z46 := Tryz.sizeOf181
  v46 := Tryz.zeroValue181
  t51 := Tryz.underlying205
  a51 := Tryz.isAgg205
  z51 := Tryz.sizeOf205
  v51 := Tryz.zeroValue205
  t53 := Tryz.underlying99
  a53 := Tryz.isAgg99
  z53 := Tryz.sizeOf99
  v53 := Tryz.zeroValue99
  t131 := Tryz.underlying97
  a131 := Tryz.isAgg97
  z131 := Tryz.sizeOf97
  v131 := Tryz.zeroValue97
  t182 := Tryz.underlying223
  a182 := Tryz.isAgg223
  z182 := Tryz.sizeOf223
  v182 := Tryz.zeroValue223
  t183 := Tryz.underlying224
  a183 := Tryz.isAgg224
  z183 := Tryz.sizeOf224
  v183 := Tryz.zeroValue224
  t218 := Tryz.underlying233
  a218 := Tryz.isAgg233
  z218 := Tryz.sizeOf233
  v218 := Tryz.zeroValue233
  t222 := Tryz.underlying220
  a222 := Tryz.isAgg220
  z222 := Tryz.sizeOf220
  v222 := Tryz.zeroValue220
  t228 := Tryz.underlying236
  a228 := Tryz.isAgg236
  z228 := Tryz.sizeOf236
  v228 := Tryz.zeroValue236
  t229 := Tryz.underlying231
  a229 := Tryz.isAgg231
  z229 := Tryz.sizeOf231
  v229 := Tryz.zeroValue231 }
def Tryz.compS_ren : Go.Shelf.Ren := ⟨fun | 194 => 109 | n => n, fun | 31 => 33 | 9 => 9 | 3 => 3 | 4 => 4 | 0 => 0 | n => n, fun | n => n⟩
theorem Tryz.compS : Go.Proofs.Lays.n194 Tryz.prog Tryz.compS_ren := {
  mixed := by kernel_rfl
  f194 := Tryz.func109.trans (congrArg some (by kernel_rfl))
  t0 := Tryz.underlying0
  a0 := Tryz.isAgg0
  z0 := Tryz.sizeOf0
  v0 := Tryz.zeroValue0
  t3 := Tryz.underlying3
  a3 := Tryz.isAgg3
  z3 := Tryz.sizeOf3
  v3 := Tryz.zeroValue3
  t4 := Tryz.underlying4
  a4 := Tryz.isAgg4
  z4 := Tryz.sizeOf4
  v4 := Tryz.zeroValue4
  t9 := Tryz.underlying9
  a9 := Tryz.isAgg9
  z9 := Tryz.sizeOf9
  v9 := Tryz.zeroValue9
  t31 := Tryz.underlying33
  a31 := Tryz.isAgg33
  z31 := Tryz.sizeOf33
  v31 := Tryz.zeroValue33 }
end Go.Proofs
