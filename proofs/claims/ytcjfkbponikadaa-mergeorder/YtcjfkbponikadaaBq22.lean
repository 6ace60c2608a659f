/-
  rokeep.entries.
  slices.Equal at ints.
  Literals in memory (no body of the program in it).
-/
import Derived.Test.YtcjfkbponikadaaBq19
import Derived.Test.YtcjfkbponikadaaBq21
import Derived.Test.YtcjfkbponikadaaBq4
import Derived.Test.YtcjfkbponikadaaBq2
import Derived.WalkKit
import Derived.WalkSpells
import Derived.WalkLawsBesides
import Derived.Deep.QuietTactic
import Derived.BigQuiet
import Derived.Test.YtcjfkbponikadaaBq1
set_option linter.unusedVariables false
set_option linter.unusedSimpArgs false
namespace Go.Proofs.Ytcjfkbponikadaa
open Go.RowKit

/-- a map as rokeep.Map makes it -/
theorem kmap_mk2 (P : Option Addr) (cp : Nat) (zs : List Int) (w : World) (hP : IS w P zs) (hl : zs.length ≤ 9223372036854775807) :
    Calls Try.prog 19 #[.slice P zs.length cp] w fun e w' => ∃ m : Mp, e = .returned (.agg #[.slice m.A m.cs.length m.ca, .slice m.O m.os.length m.co]) ∧ OkM m.cs m.os ∧ MO w' w.heap.size m ∧ Below w.heap.size w w' := by
  refine (kmap_any P cp zs w hP hl).mono ?_
  rintro e w' ⟨A, ca, O, co, rfl, h1, h2, hb⟩
  refine ⟨⟨A, ca, (mapR zs 6).1, O, co, (mapR zs 6).2.map fun (k : Nat) => (k : Int)⟩, by simp only [List.length_map], mapR_ok zs, ⟨h1, ?_⟩, hb⟩
  have e : ((mapR zs 6).2.map fun (k : Nat) => (k : Int)).map (Value.int .i64) = nV (mapR zs 6).2 := by simp [nV]
  simp only
  rw [e]
  exact h2
theorem good_deed {x : Dl} (h : (∀ o ∈ x.d, GoodO o) ∧ 1 ≤ x.d.length ∧ x.d.length ≤ 4) : chkD x.d = 0 := chkD_zero.2 ⟨h.2.1, by have := h.2.2; omega, fun o ho => (h.1 o ho).chk⟩
/-- an entry as entries makes it -/
structure GoodE (x : Em) : Prop where
  chk : chkE (entOf x) = 0
  bare : dropE (entOf x) = entOf x
  few : x.d.length ≤ 4
/-- what entries hands back -/
def RetEn (w : World) (n : Nat) (e : Ending) (w' : World) : Prop :=
  ∃ (A : Option Addr) (c : Nat) (xs : List Em), e = .returned (.slice A xs.length c) ∧ EW w' w.heap.size A c xs ∧ (∀ x ∈ xs, GoodE x) ∧ xs.length ≤ 12 + min 12 n ∧ Below w.heap.size w w'
theorem Dds.keep {w w' : World} {B : Nat} {A : Option Addr} {c : Nat} {ds : List Dl} {r : Option Nat} (h : Dds w B A c ds) (hg : w.grownBy w' r) (hr : ∀ k, r = some k → Ty w k 43) : Dds w' B A c ds :=
  ⟨own_keep h.or hg fun k hk => ⟨_, hr k hk, by decide⟩, fun x hx => own_keep (h.oo x hx) hg fun k hk => ⟨_, hr k hk, by decide⟩, h.ap, h.pw, h.good⟩
/-- while they are made -/
def EnI (w : World) (D : Option Addr) (cD : Nat) (ds : List Dl) (m : Nat) (s i : Value) (wr : World) : Prop :=
  ∃ (k : Nat) (A : Option Addr) (c : Nat) (xs : List Em), k ≤ ds.length ∧ i = .int .i64 k ∧ s = .slice A xs.length c ∧ EW wr w.heap.size A c xs ∧ (∀ x ∈ xs, GoodE x) ∧ xs.length ≤ k + min k m ∧ Dds wr w.heap.size D cD ds ∧ Below w.heap.size w wr
/-- one entry more -/
theorem ents_add {w wr : World} {A D : Option Addr} {c cD : Nat} {xs : List Em} {ds : List Dl} (hW : EW wr w.heap.size A c xs) (hgd : ∀ x ∈ xs, GoodE x) (hD : Dds wr w.heap.size D cD ds) (hb : Below w.heap.size w wr) (y : Em) (hy : EO wr w.heap.size y) (hbd : ∀ o ∈ y.d, -9223372036854775808 ≤ o.n ∧ o.n ≤ 9223372036854775807) (hg : GoodE y) (hl : xs.length ≤ 1000) :
    ∃ A' c' w', (Builtin.append_ #[29, 29] 29 #[.slice A xs.length c, .slice (some ⟨wr.heap.size, 0, none⟩) 1 1]).run Try.prog (wr.alloc (.cells (emC y) 43)) = .ok (.slice A' (xs ++ [y]).length c') w' ∧ EW w' w.heap.size A' c' (xs ++ [y]) ∧ (∀ x ∈ xs ++ [y], GoodE x) ∧ Dds w' w.heap.size D cD ds ∧ Below w.heap.size w w' := by
  obtain ⟨A', c', w', hrun, hW', hgr, hbel, _⟩ := app_ent wr w.heap.size 29 A c xs hW y hy hbd (by omega) hb.size
  have al := (Below.refl wr.heap.size wr).alloc (Nat.le_refl _) (.cells (emC y) 43)
  refine ⟨A', c', w', hrun, hW', fun x hx => ?_, (hD.below al).keep hgr fun k hk => own_ty (hW.below al).row (by rw [ownBlock_slice]; exact hk), hbel _ _ (Nat.le_refl _) hb⟩
  rcases List.mem_append.1 hx with hx | hx
  · exact hgd x hx
  · simp at hx; subst hx; exact hg
set_option maxHeartbeats 2000000 in
set_option maxRecDepth 100000 in
theorem entries_any (A1 A2 : Option Addr) (c1 c2 : Nat) (cs ms : List Cl) (w : World) (h1 : LS w A1 cs) (hl1 : cs.length ≤ c1) (hc1 : c1 ≤ 9223372036854775807) (hn1 : A1 = none → c1 = 0) (h2 : LS w A2 ms) :
    Calls Try.prog 8 #[.slice A1 cs.length c1, .slice A2 ms.length c2] w (RetEn w ms.length) := by
  have HD := hideP (deeds_any A1 c1 12 cs w h1 hl1 hc1 hn1 (by decide))
  go_enter Try.func8, Try.ntmps8
  go_wp2_with fail
  refine HD.out.mono ?_
  clear HD h1
  rintro e w1 ⟨A, c, ds, rfl, hD, hdl, hb1⟩
  go_wp2_with fail
  go_loopw [5, 11] (EnI w A c ds ms.length) (fun _ i _ => ds.length - (intOf i).toNat)
  case atStart => exact ⟨0, none, 0, [], Nat.zero_le _, rfl, rfl, EW.nil _ _, by simp, Nat.zero_le _, hD, hb1⟩
  case round =>
    obtain ⟨k, Ak, ck, xs, hk, rfl, rfl, hW, hgd, hxl, hDr, hb⟩ := hrel
    clear hD hb1
    by_cases hlt : k < ds.length
    · obtain ⟨b0, o0, hA0, hbl0, p0⟩ := hDr.or.vs k (dlV ds[k]) (by simp [hlt])
      have hoo := hDr.oo _ (List.getElem_mem hlt)
      have hgo := hDr.good _ (List.getElem_mem hlt)
      subst hA0
      generalize ds[k] = x at p0 hoo hgo
      obtain ⟨xD, xc, xd⟩ := x
      unfold dlV at p0
      simp only at p0 hoo hgo
      have g0 : (0 : Int) ≤ (k : Int) := by omega
      have g1 : (k : Int) < (ds.length : Int) := by omega
      have al := (Below.refl wr.heap.size wr).alloc (Nat.le_refl _) (.cells #[.slice xD xd.length xc] 37)
      obtain ⟨A3, c3, w3, hrun, hW3, hgd3, hD3, hb3⟩ := ents_add (hW.below al) hgd (hDr.below al) (hb.trans (al.mono hb.size)) ⟨xD, xc, xd, false, noM⟩ ⟨hoo.below al, noM_mo _ _⟩ (fun o ho => by have := (hgo.1 o ho).n; omega) ⟨good_deed (x := ⟨xD, xc, xd⟩) hgo, rfl, hgo.2.2⟩ (by omega)
      have hl3 : (xs ++ [(⟨xD, xc, xd, false, noM⟩ : Em)]).length = xs.length + 1 := by simp
      generalize xs ++ [(⟨xD, xc, xd, false, noM⟩ : Em)] = xs3 at hrun hW3 hgd3 hl3
      simp only [World.size_alloc] at hrun
      unfold emC noM at hrun
      simp only [List.length_nil] at hrun
      have HR := hideP hrun
      have q0 := (Box.new wr 37 #[.slice xD xd.length xc]).cell 0 rfl
      clear hrun hoo hgo hDr hW al hb hgd
      by_cases hm : k < ms.length
      · have hms := (h2.below hb3).is_ _ (List.getElem_mem hm)
        obtain ⟨b2, o2, hA2, hbl2, z0⟩ := (h2.below hb3).vs k (clV ms[k]) (by simp [hm])
        subst hA2
        generalize ms[k] = z at hms z0
        obtain ⟨zA, zc, zs⟩ := z
        unfold clV at z0
        simp only at z0 hms
        have HK := hideP (kmap_mk2 zA zc zs w3 hms.1 (by omega))
        have g2 : (k : Int) < (ms.length : Int) := by omega
        have HXL := hideP hl3
        clear hl3
        go_wp2_with (at_builtin; refine Lib.wpList_append_run _ rfl _ _ _ _ rfl _ _ rfl rfl _ _ HR.out ?_)
        refine HK.out.mono ?_
        clear HK HR
        rintro e w4 ⟨m, rfl, hok, hmo, hb4⟩
        obtain ⟨A5, c5, w5, hrun, hW5, hgd5, hD5, hb5⟩ := ents_add (hW3.below hb4) hgd3 (hD3.below hb4) (hb3.trans (hb4.mono hb3.size)) ⟨none, 0, [], true, m⟩ ⟨OO.nil _ _, hmo.mono hb3.size⟩ (by simp) ⟨chkM_ok.2 hok, rfl, by simp⟩ (by have := HXL.out; omega)
        unfold emC at hrun
        simp only [List.length_nil] at hrun
        have HR5 := hideP hrun
        have hl5 := hideP (show (xs3 ++ [(⟨none, 0, [], true, m⟩ : Em)]).length = xs3.length + 1 by simp)
        clear hrun hW3 hgd3 hD3 hmo hb3 hb4 hok
        generalize xs3 ++ [(⟨none, 0, [], true, m⟩ : Em)] = xs5 at HR5 hW5 hgd5 hl5
        go_wp2_with (at_builtin; refine Lib.wpList_append_run _ rfl _ _ _ _ rfl _ _ rfl rfl _ _ HR5.out ?_)
        go_roundw
        case rel => exact ⟨k + 1, A5, c5, xs5, by omega, by go_num, rfl, hW5, hgd5, by rw [hl5.out, HXL.out]; omega, hD5, hb5⟩
        case measure => simp [intOf]; omega
      · have g2 : ¬ (k : Int) < (ms.length : Int) := by omega
        have HXL := hideP hl3
        clear hl3
        go_wp2_with (at_builtin; refine Lib.wpList_append_run _ rfl _ _ _ _ rfl _ _ rfl rfl _ _ HR.out ?_)
        go_roundw
        case rel => exact ⟨k + 1, A3, c3, xs3, by omega, by go_num, rfl, hW3, hgd3, by rw [HXL.out]; omega, hD3, hb3⟩
        case measure => simp [intOf]; omega
    · go_wp2_with fail
      go_ret
      exact ⟨Ak, ck, xs, rfl, hW, hgd, by omega, hb⟩
end Go.Proofs.Ytcjfkbponikadaa

set_option linter.unusedVariables false
set_option linter.unusedSimpArgs false
namespace Go.Proofs.Ytcjfkbponikadaa
open Go.RowKit

set_option maxHeartbeats 400000 in
set_option maxRecDepth 100000 in
theorem iequal_same (A1 A2 : Option Addr) (c1 c2 : Nat) (l : List Nat) (w : World) (h1 : VS w A1 (nV l)) (h2 : VS w A2 (nV l)) (hl : l.length < 4611686018427387904) :
    Calls Try.prog 16 #[.slice A1 l.length c1, .slice A2 l.length c2] w fun e w' => e = .returned (.bool true) ∧ Below w.heap.size w w' := by
  have d0 : ((l.length : Int) != (l.length : Int)) = false := by simp
  go_enter Try.func16, Try.ntmps16
  go_wp2_with fail
  go_loopw [13] (fun i wr => ∃ k : Nat, k ≤ l.length ∧ i = .int .i64 k ∧ Below w.heap.size w wr) (fun i _ => l.length - (intOf i).toNat)
  case atStart => exact ⟨0, Nat.zero_le _, rfl, Below.refl _ _⟩
  case round =>
    obtain ⟨k, hk, rfl, hb⟩ := hrel
    by_cases hlt : k < l.length
    · obtain ⟨b, o, rfl, hbl, q1⟩ := h1.below hb k (.int .i64 (l[k] : Int)) (by simp [nV, hlt])
      obtain ⟨b', o', rfl, hbl', q2⟩ := h2.below hb k (.int .i64 (l[k] : Int)) (by simp [nV, hlt])
      clear h1 h2
      generalize (l[k] : Int) = p at q1 q2
      have g1 : (0 : Int) ≤ (k : Int) := by omega
      have g2 : (k : Int) < (l.length : Int) := by omega
      have dp : (p != p) = false := by simp
      go_wp2_with fail
      go_quiet (fail)
      go_wp2_with fail
      go_roundw
      case rel => exact ⟨k + 1, by omega, by go_num, ⟨hb.os, hb.tape, hb.output, hb.size, hb.block⟩⟩
      case measure => simp [intOf]; omega
    · go_wp2_with fail
      go_ret
      exact ⟨rfl, hb⟩
end Go.Proofs.Ytcjfkbponikadaa

set_option linter.unusedVariables false
set_option linter.unusedSimpArgs false
namespace Go.Proofs.Ytcjfkbponikadaa
open Go.RowKit

theorem OS.lit1 (w W : World) (o : Opr) (t : TypeId) (hW : W = w.alloc (.cells #[.int .i64 o.kind, .string o.key, .string o.src, .int .i64 o.n] t)) (g : Nat) (hg : g = w.heap.size) : OS W W.heap.size (some ⟨g, 0, none⟩) [o] := by
  subst hW; subst hg
  intro i p hp
  cases i with
  | zero => simp at hp; subst hp; exact ⟨w.heap.size, 0, rfl, by simp, by simp, by simp, by simp, by simp⟩
  | succ i => simp at hp
theorem VS.lit0 (w : World) (t : TypeId) : VS (w.alloc (.cells #[.int .i64 0] t)) (some ⟨w.heap.size, 0, none⟩) (nV [0]) := fun i v hv => by
  cases i with
  | zero => simp [nV] at hv; subst hv; exact ⟨w.heap.size, 0, rfl, by simp, by simp⟩
  | succ i => simp [nV] at hv

end Go.Proofs.Ytcjfkbponikadaa
