/-
  rokeep.entries.
  rokeep.Map in other words; rokeep.Key.
  Transactions plainly, rows of one-cell values that are written (no body of the program in it).
  What rokeep.Deeds makes, as valid transactions (no body of the program in it).
  Maps that numbers make; what a change of one store leaves (no body of package parts in it).
-/
import Derived.Test.YtcopmdgcjnkiaaaGreatBw44
import Derived.Test.YtcopmdgcjnkiaaaGreatBw10
import Derived.Test.YtcopmdgcjnkiaaaGreatBw13
import Derived.Test.YtcopmdgcjnkiaaaGreatBw9
import Derived.Test.YtcopmdgcjnkiaaaGreatBw20
import Derived.Test.YtcopmdgcjnkiaaaGreatBw8
import Derived.Test.YtcopmdgcjnkiaaaGreatBw39
import Derived.Test.YtcopmdgcjnkiaaaGreatBw25
set_option linter.unusedVariables false
set_option linter.unusedSimpArgs false
namespace Go.Proofs.YtcopmdgcjnkiaaaGreat
open Go.RowKit

/-- a map as rokeep.Map makes it -/
theorem kmap_mk2 (P : Option Addr) (cp : Nat) (zs : List Int) (w : World) (hP : IS w P zs) (hl : zs.length ≤ 9223372036854775807) :
    Calls Tryz.prog 10 #[.slice P zs.length cp] w fun e w' => ∃ m : Mp, e = .returned (.agg #[.slice m.A m.cs.length m.ca, .slice m.O m.os.length m.co]) ∧ OkM m.cs m.os ∧ MO w' w.heap.size m ∧ Below w.heap.size w w' := by
  refine (kmap_any P cp zs w hP hl).mono ?_
  rintro e w' ⟨A, ca, O, co, rfl, h1, h2, hb⟩
  refine ⟨⟨A, ca, (mapR zs 6).1, O, co, (mapR zs 6).2.map fun (k : Nat) => (k : Int)⟩, by simp only [List.length_map], mapR_ok zs, ⟨h1, ?_⟩, hb⟩
  have e : ((mapR zs 6).2.map fun (k : Nat) => (k : Int)).map (Value.int .i64) = nV (mapR zs 6).2 := by simp [nV]
  simp only
  rw [e]
  exact h2
theorem good_deed {x : Dl} (h : (∀ o ∈ x.d, GoodO o) ∧ 1 ≤ x.d.length ∧ x.d.length ≤ 4) : chkD x.d = 0 := chkD_zero.2 ⟨h.2.1, by have := h.2.2; omega, fun o ho => (h.1 o ho).chk⟩
/-- an entry as entries makes it -/
structure GoodE (x : Em) : Prop where
  chk : chkE (entOf x) = 0
  bare : dropE (entOf x) = entOf x
  few : x.d.length ≤ 4
/-- what entries hands back -/
def RetEn (w : World) (n : Nat) (e : Ending) (w' : World) : Prop :=
  ∃ (A : Option Addr) (c : Nat) (xs : List Em), e = .returned (.slice A xs.length c) ∧ EW w' w.heap.size A c xs ∧ (∀ x ∈ xs, GoodE x) ∧ xs.length ≤ 12 + min 12 n ∧ Below w.heap.size w w'
theorem Dds.keep {w w' : World} {B : Nat} {A : Option Addr} {c : Nat} {ds : List Dl} {r : Option Nat} (h : Dds w B A c ds) (hg : w.grownBy w' r) (hr : ∀ k, r = some k → Ty w k 41) : Dds w' B A c ds :=
  ⟨own_keep h.or hg fun k hk => ⟨_, hr k hk, by decide⟩, fun x hx => own_keep (h.oo x hx) hg fun k hk => ⟨_, hr k hk, by decide⟩, h.ap, h.pw, h.good⟩
/-- while they are made -/
def EnI (w : World) (D : Option Addr) (cD : Nat) (ds : List Dl) (m : Nat) (s i : Value) (wr : World) : Prop :=
  ∃ (k : Nat) (A : Option Addr) (c : Nat) (xs : List Em), k ≤ ds.length ∧ i = .int .i64 k ∧ s = .slice A xs.length c ∧ EW wr w.heap.size A c xs ∧ (∀ x ∈ xs, GoodE x) ∧ xs.length ≤ k + min k m ∧ Dds wr w.heap.size D cD ds ∧ Below w.heap.size w wr
/-- one entry more -/
theorem ents_add {w wr : World} {A D : Option Addr} {c cD : Nat} {xs : List Em} {ds : List Dl} (hW : EW wr w.heap.size A c xs) (hgd : ∀ x ∈ xs, GoodE x) (hD : Dds wr w.heap.size D cD ds) (hb : Below w.heap.size w wr) (y : Em) (hy : EO wr w.heap.size y) (hbd : ∀ o ∈ y.d, -9223372036854775808 ≤ o.n ∧ o.n ≤ 9223372036854775807) (hg : GoodE y) (hl : xs.length ≤ 1000) :
    ∃ A' c' w', (Builtin.append_ #[35, 35] 35 #[.slice A xs.length c, .slice (some ⟨wr.heap.size, 0, none⟩) 1 1]).run Tryz.prog (wr.alloc (.cells (emC y) 41)) = .ok (.slice A' (xs ++ [y]).length c') w' ∧ EW w' w.heap.size A' c' (xs ++ [y]) ∧ (∀ x ∈ xs ++ [y], GoodE x) ∧ Dds w' w.heap.size D cD ds ∧ Below w.heap.size w w' := by
  obtain ⟨A', c', w', hrun, hW', hgr, hbel, _⟩ := app_ent wr w.heap.size 35 A c xs hW y hy hbd (by omega) hb.size
  have al := (Below.refl wr.heap.size wr).alloc (Nat.le_refl _) (.cells (emC y) 41)
  refine ⟨A', c', w', hrun, hW', fun x hx => ?_, (hD.below al).keep hgr fun k hk => own_ty (hW.below al).row (by rw [ownBlock_slice]; exact hk), hbel _ _ (Nat.le_refl _) hb⟩
  rcases List.mem_append.1 hx with hx | hx
  · exact hgd x hx
  · simp at hx; subst hx; exact hg
set_option maxHeartbeats 2000000 in
set_option maxRecDepth 100000 in
theorem entries_any (A1 A2 : Option Addr) (c1 c2 : Nat) (cs ms : List Cl) (w : World) (h1 : LS w A1 cs) (hl1 : cs.length ≤ c1) (hc1 : c1 ≤ 9223372036854775807) (hn1 : A1 = none → c1 = 0) (h2 : LS w A2 ms) :
    Calls Tryz.prog 12 #[.slice A1 cs.length c1, .slice A2 ms.length c2] w (RetEn w ms.length) := by
  have HD := hideP (deeds_any A1 c1 12 cs w h1 hl1 hc1 hn1 (by decide))
  go_enter Tryz.func12, Tryz.ntmps12
  go_wp2_with fail
  refine HD.out.mono ?_
  clear HD h1
  rintro e w1 ⟨A, c, ds, rfl, hD, hdl, hb1⟩
  go_wp2_with fail
  go_loopw [5, 11] (EnI w A c ds ms.length) (fun _ i _ => ds.length - (intOf i).toNat)
  case atStart => exact ⟨0, none, 0, [], Nat.zero_le _, rfl, rfl, EW.nil _ _, by simp, Nat.zero_le _, hD, hb1⟩
  case round =>
    obtain ⟨k, Ak, ck, xs, hk, rfl, rfl, hW, hgd, hxl, hDr, hb⟩ := hrel
    clear hD hb1
    by_cases hlt : k < ds.length
    · obtain ⟨b0, o0, hA0, hbl0, p0⟩ := hDr.or.vs k (dlV ds[k]) (by simp [hlt])
      have hoo := hDr.oo _ (List.getElem_mem hlt)
      have hgo := hDr.good _ (List.getElem_mem hlt)
      subst hA0
      generalize ds[k] = x at p0 hoo hgo
      obtain ⟨xD, xc, xd⟩ := x
      unfold dlV at p0
      simp only at p0 hoo hgo
      have g0 : (0 : Int) ≤ (k : Int) := by omega
      have g1 : (k : Int) < (ds.length : Int) := by omega
      have al := (Below.refl wr.heap.size wr).alloc (Nat.le_refl _) (.cells #[.slice xD xd.length xc] 39)
      obtain ⟨A3, c3, w3, hrun, hW3, hgd3, hD3, hb3⟩ := ents_add (hW.below al) hgd (hDr.below al) (hb.trans (al.mono hb.size)) ⟨xD, xc, xd, false, noM⟩ ⟨hoo.below al, noM_mo _ _⟩ (fun o ho => by have := (hgo.1 o ho).n; omega) ⟨good_deed (x := ⟨xD, xc, xd⟩) hgo, rfl, hgo.2.2⟩ (by omega)
      have hl3 : (xs ++ [(⟨xD, xc, xd, false, noM⟩ : Em)]).length = xs.length + 1 := by simp
      generalize xs ++ [(⟨xD, xc, xd, false, noM⟩ : Em)] = xs3 at hrun hW3 hgd3 hl3
      simp only [World.size_alloc] at hrun
      unfold emC noM at hrun
      simp only [List.length_nil] at hrun
      have HR := hideP hrun
      have q0 := (Box.new wr 39 #[.slice xD xd.length xc]).cell 0 rfl
      clear hrun hoo hgo hDr hW al hb hgd
      by_cases hm : k < ms.length
      · have hms := (h2.below hb3).is_ _ (List.getElem_mem hm)
        obtain ⟨b2, o2, hA2, hbl2, z0⟩ := (h2.below hb3).vs k (clV ms[k]) (by simp [hm])
        subst hA2
        generalize ms[k] = z at hms z0
        obtain ⟨zA, zc, zs⟩ := z
        unfold clV at z0
        simp only at z0 hms
        have HK := hideP (kmap_mk2 zA zc zs w3 hms.1 (by omega))
        have g2 : (k : Int) < (ms.length : Int) := by omega
        have HXL := hideP hl3
        clear hl3
        go_wp2_with (at_builtin; refine Lib.wpList_append_run _ rfl _ _ _ _ rfl _ _ rfl rfl _ _ HR.out ?_)
        refine HK.out.mono ?_
        clear HK HR
        rintro e w4 ⟨m, rfl, hok, hmo, hb4⟩
        obtain ⟨A5, c5, w5, hrun, hW5, hgd5, hD5, hb5⟩ := ents_add (hW3.below hb4) hgd3 (hD3.below hb4) (hb3.trans (hb4.mono hb3.size)) ⟨none, 0, [], true, m⟩ ⟨OO.nil _ _, hmo.mono hb3.size⟩ (by simp) ⟨chkM_ok.2 hok, rfl, by simp⟩ (by have := HXL.out; omega)
        unfold emC at hrun
        simp only [List.length_nil] at hrun
        have HR5 := hideP hrun
        have hl5 := hideP (show (xs3 ++ [(⟨none, 0, [], true, m⟩ : Em)]).length = xs3.length + 1 by simp)
        clear hrun hW3 hgd3 hD3 hmo hb3 hb4 hok
        generalize xs3 ++ [(⟨none, 0, [], true, m⟩ : Em)] = xs5 at HR5 hW5 hgd5 hl5
        go_wp2_with (at_builtin; refine Lib.wpList_append_run _ rfl _ _ _ _ rfl _ _ rfl rfl _ _ HR5.out ?_)
        go_roundw
        case rel => exact ⟨k + 1, A5, c5, xs5, by omega, by go_num, rfl, hW5, hgd5, by rw [hl5.out, HXL.out]; omega, hD5, hb5⟩
        case measure => simp [intOf]; omega
      · have g2 : ¬ (k : Int) < (ms.length : Int) := by omega
        have HXL := hideP hl3
        clear hl3
        go_wp2_with (at_builtin; refine Lib.wpList_append_run _ rfl _ _ _ _ rfl _ _ rfl rfl _ _ HR.out ?_)
        go_roundw
        case rel => exact ⟨k + 1, A3, c3, xs3, by omega, by go_num, rfl, hW3, hgd3, by rw [HXL.out]; omega, hD3, hb3⟩
        case measure => simp [intOf]; omega
    · go_wp2_with fail
      go_ret
      exact ⟨Ak, ck, xs, rfl, hW, hgd, by omega, hb⟩
end Go.Proofs.YtcopmdgcjnkiaaaGreat

set_option linter.unusedVariables false
set_option linter.unusedSimpArgs false
namespace Go.Proofs.YtcopmdgcjnkiaaaGreat
open Go.RowKit

/-- a map is handed back, a valid one with few cuts -/
def RetMk (w : World) (e : Ending) (w' : World) : Prop := ∃ m : Mp, e = .returned (.agg #[.slice m.A m.cs.length m.ca, .slice m.O m.os.length m.co]) ∧ OkM m.cs m.os ∧ m.cs.length ≤ 6 ∧ MO w' w.heap.size m ∧ Below w.heap.size w w'
theorem kmap_mk (P : Option Addr) (cp : Nat) (zs : List Int) (w : World) (hP : IS w P zs) (hl : zs.length ≤ 9223372036854775807) :
    Calls Tryz.prog 10 #[.slice P zs.length cp] w (RetMk w) := by
  refine (kmap_any P cp zs w hP hl).mono ?_
  rintro e w' ⟨A, ca, O, co, rfl, h1, h2, hb⟩
  refine ⟨⟨A, ca, (mapR zs 6).1, O, co, (mapR zs 6).2.map fun (k : Nat) => (k : Int)⟩, by simp only [List.length_map], mapR_ok zs, mapR_few zs 6, ⟨h1, ?_⟩, hb⟩
  have e : ((mapR zs 6).2.map fun (k : Nat) => (k : Int)).map (Value.int .i64) = nV (mapR zs 6).2 := by simp [nV]
  show OR w' w.heap.size 3 O co (((mapR zs 6).2.map fun (k : Nat) => (k : Int)).map (Value.int .i64))
  rw [e]; exact h2
theorem rkey_be (k : Int) (w : World) : Calls Tryz.prog 33 #[.int .i64 k] w fun e w' => e = .returned (.string (keyN (wi k 8))) ∧ Below w.heap.size w w' := by
  refine (rkey_any k w).mono ?_
  rintro e w' ⟨rfl, rfl⟩
  exact ⟨rfl, (Below.refl _ _).alloc (Nat.le_refl _) _⟩
end Go.Proofs.YtcopmdgcjnkiaaaGreat

set_option linter.unusedVariables false
set_option linter.unusedSimpArgs false
namespace Go.Proofs.YtcopmdgcjnkiaaaGreat
open Go.RowKit

/-- the transactions of a list, plainly -/
def ddOf (ds : List Dl) : List (List Opr) := ds.map (·.d)
theorem ddOf_len (ds : List Dl) : (ddOf ds).length = ds.length := by simp [ddOf]
theorem ddOf_get {ds : List Dl} {i : Nat} (h : i < ds.length) : (ddOf ds).getD i [] = ds[i].d := by simp [ddOf, List.getD_eq_getElem?_getD, h]
theorem ddOf_take {ds : List Dl} {k : Nat} (h : k < ds.length) : ddOf (ds.take (k + 1)) = ddOf (ds.take k) ++ [ds[k].d] := by
  unfold ddOf; rw [List.take_succ_eq_append_getElem h, List.map_append]; rfl
theorem getD_set_ (gl : List Bool) {k : Nat} (hk : k < gl.length) (v : Bool) (i : Nat) : (gl.set k v).getD i false = if i = k then v else gl.getD i false := by
  rw [List.getD_eq_getElem?_getD, List.getElem?_set]
  by_cases e : k = i
  · subst e; simp [hk]
  · rw [if_neg e, if_neg fun e' => e e'.symm, List.getD_eq_getElem?_getD]
end Go.Proofs.YtcopmdgcjnkiaaaGreat

set_option linter.unusedVariables false
set_option linter.unusedSimpArgs false
namespace Go.Proofs.YtcopmdgcjnkiaaaGreat
open Go.RowKit

theorem Dds.ds {w : World} {B : Nat} {A : Option Addr} {c : Nat} {ds : List Dl} (h : Dds w B A c ds) : DS w A ds := ⟨h.or.vs, fun x hx => (h.oo x hx).os⟩
theorem Dds.chk {w : World} {B : Nat} {A : Option Addr} {c : Nat} {ds : List Dl} (h : Dds w B A c ds) : ∀ x ∈ ds, chkD x.d = 0 := fun x hx => by
  obtain ⟨h1, h2, h3⟩ := h.good x hx
  exact chkD_zero.2 ⟨h2, by omega, fun o ho => (h1 o ho).chk⟩
end Go.Proofs.YtcopmdgcjnkiaaaGreat

set_option linter.unusedVariables false
set_option linter.unusedSimpArgs false
namespace Go.Proofs.YtcopmdgcjnkiaaaGreat
open Go.RowKit

/-- the map that numbers make -/
def mpC (zs : List Int) : List ByteArray := (mapR zs 6).1
def mpO (zs : List Int) : List Int := (mapR zs 6).2.map fun (k : Nat) => (k : Int)
theorem mp_ok (zs : List Int) : OkM (mpC zs) (mpO zs) := mapR_ok zs
def RetMi (w : World) (zs : List Int) (e : Ending) (w' : World) : Prop :=
  ∃ A ca O co, e = .returned (.agg #[.slice A (mpC zs).length ca, .slice O (mpO zs).length co]) ∧ MO w' w.heap.size ⟨A, ca, mpC zs, O, co, mpO zs⟩ ∧ Below w.heap.size w w'
theorem kmap_is (P : Option Addr) (cp : Nat) (zs : List Int) (w : World) (hP : IS w P zs) (hl : zs.length ≤ 9223372036854775807) :
    Calls Tryz.prog 10 #[.slice P zs.length cp] w (RetMi w zs) := by
  refine (kmap_any P cp zs w hP hl).mono ?_
  rintro e w' ⟨A, ca, O, co, rfl, h1, h2, hb⟩
  refine ⟨A, ca, O, co, by simp only [mpC, mpO, List.length_map], ⟨h1, ?_⟩, hb⟩
  have e : ((mapR zs 6).2.map fun (k : Nat) => (k : Int)).map (Value.int .i64) = nV (mapR zs 6).2 := by simp [nV]
  show OR w' w.heap.size 3 O co ((mpO zs).map (Value.int .i64))
  unfold mpO
  rw [e]; exact h2
theorem Dds.kept {w w' : World} {B : Nat} {A : Option Addr} {c g : Nat} {ds : List Dl} {t : TypeId} (h : Dds w B A c ds) (ht : Ty w g t) (h1 : 39 ≠ t) (h2 : 80 ≠ t) (hg : w.grownBy w' (some g)) : Dds w' B A c ds :=
  ⟨World.ownsRow.kept h.or hg (own_ne h.or ht h1), fun x hx => World.ownsRow.kept (h.oo x hx) hg (own_ne (h.oo x hx) ht h2), h.ap, h.pw, h.good⟩
theorem Dds.below_ {w w' : World} {B : Nat} {A : Option Addr} {c : Nat} {ds : List Dl} (h : Dds w B A c ds) (hb : Below w.heap.size w w') : Dds w' B A c ds :=
  ⟨h.or.below hb, fun x hx => own_below (h.oo x hx) hb, h.ap, h.pw, h.good⟩
theorem MX.kept {w wr w' : World} {gm g : Nat} {m : Mp} (h : MX w gm m wr) (ht : Ty wr g 127) (hl : w.heap.size ≤ g) (hg : wr.grownBy w' (some g)) : MX w gm m w' :=
  ⟨h.x0.kept (ty_ne h.x0.ty ht (by decide)) hg, h.mo.kept ht (by decide) (by decide) hg, Below.kept h.be hl hg⟩
/-- a slice of pairs that lies in no block of a partitioned store -/
structure SN (w : World) (g : Nat) (A : Option Addr) (c : Nat) (l : List Pr) : Prop where
  sv : SV w A c l
  ne : ∀ (i : Nat) (p : Pr), l[i]? = some p → ∀ a, A = some a → a.block ≠ g
theorem SN.of_ov {w : World} {B g : Nat} {A : Option Addr} {c : Nat} {l : List Pr} (h : OV w B A c l) (ht : Ty w g 127) : SN w g A c l := ⟨h.sv, fun i p _ a e1 e2 => by
  subst e1; subst e2
  exact absurd ((own_ty h rfl).inj ht) (by decide)⟩
theorem SN.of_sv {ws w : World} {g : Nat} {A : Option Addr} {c : Nat} {l : List Pr} (h : SV ws A c l) (hb : Below ws.heap.size ws w) (hg : ws.heap.size ≤ g) : SN w g A c l := ⟨h.below hb, fun i p hp a e1 e2 => by
  obtain ⟨b, o, e, hlt, _⟩ := h.ps i p hp
  rw [e1] at e
  injection e with e
  subst e
  simp at e2
  omega⟩
theorem SN.below {w w' : World} {g : Nat} {A : Option Addr} {c : Nat} {l : List Pr} (h : SN w g A c l) (hb : Below w.heap.size w w') : SN w' g A c l := ⟨h.sv.below hb, h.ne⟩
end Go.Proofs.YtcopmdgcjnkiaaaGreat
