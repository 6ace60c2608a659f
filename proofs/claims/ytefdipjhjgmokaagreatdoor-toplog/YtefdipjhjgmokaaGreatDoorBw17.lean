/-
  (*merge.Merge).Log.
  Copies: Add and Close of the Merge in them; replicas that have played the log.
-/
import Derived.Test.YtefdipjhjgmokaaGreatDoorBw6
import Derived.Test.YtefdipjhjgmokaaGreatDoorBw16
import Derived.Test.YtefdipjhjgmokaaGreatDoorBw12
import Derived.Test.YtefdipjhjgmokaaGreatDoorBw14
set_option linter.unusedVariables false
set_option linter.unusedSimpArgs false
namespace Go.Proofs.YtefdipjhjgmokaaGreatDoor
open Go.RowKit

/-- what Log hands back -/
def RetLm (w : World) (l : List Ent) (e : Ending) (w' : World) : Prop := ∃ A c xs, e = .returned (.slice A xs.length c) ∧ xs.map entOf = l ∧ EW w' w.heap.size A c xs ∧ Below w.heap.size w w'
/-- the same, and the rows of operations lie apart -/
def RetLp (w : World) (l : List Ent) (e : Ending) (w' : World) : Prop := ∃ A c xs, e = .returned (.slice A xs.length c) ∧ xs.map entOf = l ∧ EW w' w.heap.size A c xs ∧ Below w.heap.size w w' ∧ (xs : List Em).Pairwise fun x y => ∀ k, blk x.D = some k → blk y.D ≠ some k
/-- what has been copied: r rounds, k inputs of the next one, j entries -/
def lgP (ct : List (List (List Ent))) (r k j : Nat) : List Ent := logUp ct r ++ ((ct.take k).map fun b => (b[r]?).getD []).flatten ++ ((ct[k]?.bind fun b => b[r]?).getD []).take j
theorem lgP_start (ct : List (List (List Ent))) : lgP ct 0 0 0 = [] := by simp [lgP, logUp]
theorem lgP_row (ct : List (List (List Ent))) (r k : Nat) (b : List (List Ent)) (l : List Ent) (hb : ct[k]? = some b) (hl : b[r]? = some l) : lgP ct r k l.length = lgP ct r (k + 1) 0 := by
  unfold lgP
  obtain ⟨hk, rfl⟩ := List.getElem?_eq_some_iff.1 hb
  rw [List.take_succ_eq_append_getElem hk, List.map_append, List.flatten_append]
  simp only [List.getElem?_eq_getElem hk, Option.bind_some, hl, Option.getD_some, List.take_length, List.map_cons, List.map_nil, List.flatten_cons, List.flatten_nil, List.append_nil, List.take_zero, List.append_assoc]
theorem lgP_round (ct : List (List (List Ent))) (r : Nat) : lgP ct r ct.length 0 = lgP ct (r + 1) 0 0 := by
  unfold lgP
  rw [logUp_succ]
  simp [roundL]
theorem lgP_next (ct : List (List (List Ent))) (r k j : Nat) (b : List (List Ent)) (l : List Ent) (x : Ent) (hb : ct[k]? = some b) (hl : b[r]? = some l) (hx : l[j]? = some x) : lgP ct r k (j + 1) = lgP ct r k j ++ [x] := by
  unfold lgP
  rw [hb]
  simp only [Option.bind_some, hl, Option.getD_some]
  obtain ⟨hj, rfl⟩ := List.getElem?_eq_some_iff.1 hx
  rw [List.take_succ_eq_append_getElem hj]
  simp
theorem lgP_end (ct : List (List (List Ent))) : lgP ct (rndM ct) 0 0 = logM ct := by simp [lgP, logM]
/-- a bound of what has been copied -/
def rM (r k j : Nat) : Nat := r * 10000 + k * 100 + j
theorem rM_small {r k j : Nat} (hr : r ≤ 60) (hk : k ≤ 4) (hj : j ≤ 60) : rM r k j ≤ 1000000 := by unfold rM; omega
theorem rM_step (r k j : Nat) : rM r k (j + 1) = rM r k j + 1 := by unfold rM; omega
theorem rM_row (r k : Nat) {j : Nat} (hj : j ≤ 60) : rM r k j ≤ rM r (k + 1) 0 := by unfold rM; omega
theorem rM_round (r : Nat) {k : Nat} (hk : k ≤ 4) : rM r k 0 ≤ rM (r + 1) 0 0 := by unfold rM; omega
/-- while the log is copied -/
structure LmH (w : World) (ct : List (List (List Ent))) (r k j : Nat) (A : Option Addr) (c : Nat) (xs : List Em) (wr : World) : Prop where
  ew : EW wr w.heap.size A c xs
  eq : xs.map entOf = lgP ct r k j
  len : xs.length ≤ rM r k j
  be : Below w.heap.size w wr
  pw : xs.Pairwise fun x y => ∀ k, blk x.D = some k → blk y.D ≠ some k
section
variable {w wr w' : World} {ct : List (List (List Ent))} {r k j : Nat} {A : Option Addr} {c : Nat} {xs : List Em}
theorem LmH.below (h : LmH w ct r k j A c xs wr) (hb : Below wr.heap.size wr w') : LmH w ct r k j A c xs w' := ⟨h.ew.below hb, h.eq, h.len, h.be.trans (hb.mono h.be.size), h.pw⟩
/-- one entry more -/
theorem LmH.add (h : LmH w ct r k j A c xs wr) {b : List (List Ent)} {l : List Ent} {e : Ent} (hb : ct[k]? = some b) (hl : b[r]? = some l) (he : l[j]? = some e) (hr : r ≤ 60) (hk4 : k ≤ 4) (hj : j ≤ 60) (y : Em) (hy : EO wr w.heap.size y) (hye : entOf y = e) (hbd : ∀ o ∈ y.d, -9223372036854775808 ≤ o.n ∧ o.n ≤ 9223372036854775807) (hap : ∀ x ∈ xs, ∀ k, blk x.D = some k → blk y.D ≠ some k) :
    ∃ A' c' xs' w2, (Builtin.append_ #[26, 26] 26 #[.slice A xs.length c, .slice (some ⟨wr.heap.size, 0, none⟩) 1 1]).run Tryz.prog (wr.alloc (.cells (emC y) 42)) = .ok (.slice A' xs'.length c') w2 ∧ LmH w ct r k (j + 1) A' c' xs' w2 := by
  obtain ⟨A', c', w2, hrun, hW, hgr, hbel, _⟩ := app_ent wr w.heap.size 26 A c xs h.ew y hy hbd (by have := h.len; have := rM_small hr hk4 hj; omega) h.be.size
  exact ⟨A', c', _, w2, hrun, hW, by rw [lgP_next ct r k j b l e hb hl he, ← h.eq, ← hye]; simp, by have := h.len; have := rM_step r k j; simp; omega, hbel _ _ (Nat.le_refl _) h.be, List.pairwise_append.2 ⟨h.pw, List.pairwise_singleton _ _, fun x hx z hz => by rw [List.mem_singleton] at hz; subst hz; exact hap x hx⟩⟩
theorem LmH.row (h : LmH w ct r k j A c xs wr) {b : List (List Ent)} {l : List Ent} (hb : ct[k]? = some b) (hl : b[r]? = some l) (hj : j = l.length) (hjl : j ≤ 60) : LmH w ct r (k + 1) 0 A c xs wr :=
  ⟨h.ew, by subst hj; rw [← lgP_row ct r k b l hb hl]; exact h.eq, Nat.le_trans h.len (rM_row r k hjl), h.be, h.pw⟩
theorem LmH.round (h : LmH w ct r k 0 A c xs wr) (hk : k = ct.length) (hk4 : k ≤ 4) : LmH w ct (r + 1) 0 0 A c xs wr :=
  ⟨h.ew, by subst hk; rw [← lgP_round]; exact h.eq, Nat.le_trans h.len (rM_round r hk4), h.be, h.pw⟩
end
def LgI1 (w : World) (ct : List (List (List Ent))) (n : Nat) (s i : Value) (wr : World) : Prop :=
  ∃ (r : Nat) (A : Option Addr) (c : Nat) (xs : List Em), r ≤ n ∧ i = .int .i64 r ∧ s = .slice A xs.length c ∧ LmH w ct r 0 0 A c xs wr
def LgI2 (w : World) (ct : List (List (List Ent))) (r n : Nat) (s i : Value) (wr : World) : Prop :=
  ∃ (k : Nat) (A : Option Addr) (c : Nat) (xs : List Em), k ≤ n ∧ i = .int .i64 k ∧ s = .slice A xs.length c ∧ LmH w ct r k 0 A c xs wr
def LgI3 (w : World) (ct : List (List (List Ent))) (r k n : Nat) (s i : Value) (wr : World) : Prop :=
  ∃ (j : Nat) (A : Option Addr) (c : Nat) (xs : List Em), j ≤ n ∧ i = .int .i64 j ∧ s = .slice A xs.length c ∧ LmH w ct r k j A c xs wr
/-- what one batch of a Merge holds, to be read -/
structure BatR (ins : List In) (r k : Nat) (wr : World) (gx : Nat) (A : Option Addr) (n c : Nat) (Ab : Option Addr) (cb : Nat) (es : List Em) : Prop where
  cell : wr.cell? ⟨gx, r, none⟩ = some (.slice Ab es.length cb)
  rn : r < n
  es60 : es.length ≤ 60
  el : EL wr Ab es
  good : ∀ e ∈ es, chkE (entOf e) = 0 ∧ dropE (entOf e) = entOf e
  bd : ∀ x ∈ es, ∀ o ∈ x.d, -9223372036854775808 ≤ o.n ∧ o.n ≤ 9223372036854775807
set_option maxHeartbeats 4000000 in
set_option maxRecDepth 100000 in
theorem mlog_pw (B g : Nat) (tx : Tx) (AI : Option Addr) (cI : Nat) (ins : List In) (added : Nat) (w : World) (h : MG w B g tx AI cI ins added) (hG : Gm ins added) :
    Calls Tryz.prog 36 #[.pointer (some ⟨g, 0, none⟩)] w (RetLp w (logM (ctM ins))) := by
  have HR := hideP (mrounds_any B g tx AI cI ins added w h hG)
  have hr60 := rnd_60 (ctM ins)
  have hfew := hG.few
  have HLE := hideP (show ∀ (k : Nat) (x : In), ins[k]? = some x → rndM (ctM ins) ≤ x.bs.length - 1 from fun k x hk => by
    have := rnd_le (ctM ins) (b := ctI x) (List.mem_map_of_mem (List.mem_of_getElem? hk))
    simpa [ctI] using this)
  have HST := hideP (lgP_start (ctM ins))
  have HEND := hideP (lgP_end (ctM ins))
  have HLC := hideP (show (ctM ins).length = ins.length by simp [ctM])
  -- a row, to be read
  have HROW := hideP (fun (wr : World) (hb : Below w.heap.size w wr) (k : Nat) (hk : k < ins.length) => show ∃ (gi : Nat) (x : In), AI = some ⟨gi, 0, none⟩ ∧ ins[k]? = some x ∧ wr.cell? ⟨gi, k, none⟩ = some (.slice x.A x.bs.length x.c) from by
    obtain ⟨x, hx⟩ : ∃ x, ins[k]? = some x := ⟨_, List.getElem?_eq_getElem hk⟩
    obtain ⟨gi, e, hc⟩ := (h.below hb).cell_ hx
    exact ⟨gi, x, e, hx, hc⟩)
  have HBK := hideP (fun (k r : Nat) (x : In) (hx : ins[k]? = some x) (hr : r < rndM (ctM ins)) => show ∃ b, x.bs[r]? = some b from by
    have hle := HLE.out k x hx
    exact ⟨_, List.getElem?_eq_getElem (by omega)⟩)
  have HBAT := hideP (fun (wr : World) (hb : Below w.heap.size w wr) (k r : Nat) (x : In) (b : Bt) (hx : ins[k]? = some x) (hbk : x.bs[r]? = some b) => show ∃ (gx : Nat), x.A = some ⟨gx, 0, none⟩ ∧ r < x.bs.length ∧ wr.cell? ⟨gx, r, none⟩ = some (.slice b.A b.es.length b.c) ∧ b.es.length ≤ 60 ∧ (ctM ins)[k]? = some (ctI x) ∧ (ctI x)[r]? = some (b.es.map entOf) from by
    obtain ⟨gx, e, hc⟩ := (h.below hb).bcell hx hbk
    exact ⟨gx, e, (List.getElem?_eq_some_iff.1 hbk).1, hc, hG.es hx hbk, by simp [ctM, hx], by simp [ctI, hbk]⟩)
  have HENT := hideP (fun (wr : World) (hb : Below w.heap.size w wr) (k r : Nat) (x : In) (b : Bt) (hx : ins[k]? = some x) (hbk : x.bs[r]? = some b) => show EL wr b.A b.es ∧ (∀ e ∈ b.es, chkE (entOf e) = 0 ∧ dropE (entOf e) = entOf e) ∧ (∀ y ∈ b.es, ∀ o ∈ y.d, -9223372036854775808 ≤ o.n ∧ o.n ≤ 9223372036854775807) from
    ⟨((h.below hb).bat k x r b hx hbk).el, h.good k x r b hx hbk, ((h.below hb).bat k x r b hx hbk).bd⟩)
  have HC0 := hideP (fun (wr : World) (hb : Below w.heap.size w wr) => (h.below hb).c0)
  generalize ctM ins = ct at HR hr60 HLE HST HEND HLC HBAT HBK ⊢
  generalize hrr : rndM ct = rr at HR hr60 HLE HBK
  rw [hrr] at HEND
  generalize logM ct = lg at HEND ⊢
  clear h hG hrr
  go_enter Tryz.func36, Tryz.ntmps36
  go_wp2_with fail
  refine HR.out.mono ?_
  rintro e w' ⟨rfl, rfl⟩
  clear HR
  go_wp2_with fail
  go_loopw [3, 11] (LgI1 w ct rr) (fun _ i _ => rr - (intOf i).toNat)
  case atStart => exact ⟨0, none, 0, [], Nat.zero_le _, rfl, rfl, EW.nil _ _, by rw [HST.out]; rfl, by simp, Below.refl _ _, .nil⟩
  case round =>
    obtain ⟨r, A, c, xs, hr, rfl, rfl, hH⟩ := hrel
    by_cases hlt : r < rr
    · have c0 := HC0.out wr hH.be
      have g1 : (r : Int) < (rr : Int) := by omega
      go_wp2_with fail
      go_loopw [3, 19] (LgI2 w ct r ins.length) (fun _ i _ => ins.length - (intOf i).toNat)
      case atStart => exact ⟨0, A, c, xs, Nat.zero_le _, rfl, rfl, hH⟩
      case round =>
        clear hH c0
        obtain ⟨k, A, c, xs, hk, rfl, rfl, hH⟩ := hrel
        by_cases hlk : k < ins.length
        · obtain ⟨gi, x, rfl, hx, p0⟩ := HROW.out wr hH.be k hlk
          obtain ⟨b, hbk⟩ := HBK.out k r x hx hlt
          obtain ⟨gx, hxA, hrl, p1, hb60, hct, hcr⟩ := HBAT.out wr hH.be k r x b hx hbk
          have hr60' : r ≤ 60 := by omega
          have hk4 : k ≤ 4 := by omega
          have g2 : (0 : Int) ≤ (k : Int) := by omega
          have g3 : (k : Int) < (ins.length : Int) := by omega
          have g4 : (0 : Int) ≤ (r : Int) := by omega
          have g5 : (r : Int) < (x.bs.length : Int) := by omega
          rw [hxA] at p0
          generalize x.bs.length = xn at p0 g5 hrl
          generalize x.c = xc at p0
          go_wp2_with fail
          go_loopw [3, 28] (LgI3 w ct r k b.es.length) (fun _ i _ => b.es.length - (intOf i).toNat)
          case atStart => exact ⟨0, A, c, xs, Nat.zero_le _, rfl, rfl, hH⟩
          case round =>
            clear hH p0 p1
            obtain ⟨j, A, c, xs, hj, rfl, rfl, hH⟩ := hrel
            by_cases hlj : j < b.es.length
            · obtain ⟨hel, hgood, hbd⟩ := HENT.out wr hH.be k r x b hx hbk
              obtain ⟨bb, oo, hA, hbl, e0, e1, e2, e3⟩ := hel.cells j b.es[j] (List.getElem?_eq_getElem hlj)
              have hes := hel.es _ (List.getElem_mem hlj)
              have hgd := hgood _ (List.getElem_mem hlj)
              have hbd1 := hbd _ (List.getElem_mem hlj)
              have hje : (b.es.map entOf)[j]? = some (entOf b.es[j]) := by rw [List.getElem?_map, List.getElem?_eq_getElem hlj]; rfl
              generalize b.es[j] = x at e0 e1 e2 e3 hes hgd hbd1 hje
              have g6 : (0 : Int) ≤ (j : Int) := by omega
              have g7 : (j : Int) < (b.es.length : Int) := by omega
              rw [hA]
              have al := (Below.refl wr.heap.size wr).alloc (Nat.le_refl _) (.cells (emC x) 42)
              have HCL := hideP (mclone_any x _ (hes.below al) hgd.1)
              have xe := Box.new wr 42 (emC x)
              have q0 := xe.cell 0 (v := .slice x.D x.d.length x.c) rfl
              have q1 := xe.cell 1 (v := .bool x.isM) rfl
              have q2 := xe.cell 2 (v := .slice x.m.A x.m.cs.length x.m.ca) rfl
              have q3 := xe.cell 3 (v := .slice x.m.O x.m.os.length x.m.co) rfl
              have HAD := hideP (fun (w2 : World) (hb2 : Below (wr.alloc (.cells (emC x) 42)).heap.size (wr.alloc (.cells (emC x) 42)) w2) (y : Em) (hye : entOf y = dropE (entOf x)) (hy : EO w2 (wr.alloc (.cells (emC x) 42)).heap.size y) =>
                ((hH.below al).below hb2).add hct hcr hje hr60' hk4 (by omega) y (hy.mono (by have := hH.be.size; simp; omega)) (hye.trans hgd.2) (by
                  have e : y.d = x.d := by have := congrArg Ent.d (hye.trans hgd.2); exact this
                  rw [e]; exact hbd1) (fun x' hx' k' hk' e' => by
                  have h1 := (World.ownsRow.lt (hH.ew.eo x' hx').ops k' (by rw [ownBlock_slice]; exact hk')).2
                  have h2 := (World.ownsRow.lt hy.ops k' (by rw [ownBlock_slice]; exact e')).1
                  simp at h2
                  omega))
              clear hel hgood hbd hes hgd hbd1 hje al xe hH
              unfold emV at HCL
              unfold emC at HCL HAD q0 q1 q2 q3
              go_wp2_with fail
              refine HCL.out.mono ?_
              clear HCL
              rintro e w2 ⟨y, rfl, hye, hy, hb2⟩
              obtain ⟨A', c', xs', w3, hrun, hH3⟩ := HAD.out w2 hb2 y hye hy
              have HRN := hideP hrun
              unfold emC at HRN
              clear hrun HAD q0 q1 q2 q3 hb2 hye hy
              unfold emV emC
              go_wp2_with (at_builtin; refine Lib.wpList_append_run _ rfl _ _ _ _ rfl _ _ rfl rfl _ _ HRN.out ?_)
              go_roundw
              case rel => exact ⟨j + 1, A', c', xs', by omega, by go_num, rfl, hH3⟩
              case measure => simp [intOf]; omega
            · have hje : j = (b.es.map entOf).length := by rw [List.length_map]; omega
              have hH2 := hH.row hct hcr hje (by omega)
              clear hH
              go_wp2_with fail
              go_roundw
              case rel => exact ⟨k + 1, A, c, xs, by omega, by go_num, rfl, hH2⟩
              case measure => simp [intOf]; omega
        · have hH2 := hH.round (by rw [HLC.out]; omega) (by omega)
          go_wp2_with fail
          go_roundw
          case rel => exact ⟨r + 1, A, c, xs, by omega, by go_num, rfl, hH2⟩
          case measure => simp [intOf]; omega
    · obtain rfl : r = rr := by omega
      go_wp2_with fail
      go_ret
      exact ⟨A, c, xs, rfl, by rw [hH.eq, HEND.out], hH.ew, hH.be, hH.pw⟩
theorem mlog_any (B g : Nat) (tx : Tx) (AI : Option Addr) (cI : Nat) (ins : List In) (added : Nat) (w : World) (h : MG w B g tx AI cI ins added) (hG : Gm ins added) :
    Calls Tryz.prog 36 #[.pointer (some ⟨g, 0, none⟩)] w (RetLm w (logM (ctM ins))) :=
  (mlog_pw B g tx AI cI ins added w h hG).mono fun e w' ⟨A, c, xs, h1, h2, h3, h4, _⟩ => ⟨A, c, xs, h1, h2, h3, h4⟩
end Go.Proofs.YtefdipjhjgmokaaGreatDoor

set_option linter.unusedVariables false
set_option linter.unusedSimpArgs false
namespace Go.Proofs.YtefdipjhjgmokaaGreatDoor
open Go.RowKit

theorem addC_log (ct : List (List (List Ent))) (i : Int) (x : Ent) : logM (addC ct i x) = logM ct := by
  unfold addC
  split
  · exact log_add _ _ _
  · rfl
theorem closeC_log (ct : List (List (List Ent))) (i : Int) : ∃ m, logM (closeC ct i) = logM ct ++ m := by
  unfold closeC
  split
  · obtain ⟨m, h, _⟩ := log_close ct i.toNat; exact ⟨m, h⟩
  · exact ⟨[], by simp⟩
section
variable {B : Nat} {w : World}
theorem cadd_any (c : Cs) (B : Nat) (i : Int) (x : Em) (w : World) (h : c.Ok w B) (hx : ES w x) :
    Calls Tryz.prog 14 #[.pointer (some ⟨c.s.g, 0, none⟩), .int .i64 i, emV x] w fun e w' => ∃ c', e = .returned (.int .i64 (addQ c.s.ct i (entOf x))) ∧ c.To w B c' w' (addC c.s.ct i (entOf x)) c.st := by
  refine (madd_any c.s B i x w h.ms hx).mono ?_
  rintro e w' ⟨s', rfl, ht⟩
  exact ⟨_, rfl, h.merge ht (by rw [addC_log]; exact Nat.le_refl _)⟩
theorem cclose_any (c : Cs) (B : Nat) (i : Int) (w : World) (h : c.Ok w B) :
    Calls Tryz.prog 15 #[.pointer (some ⟨c.s.g, 0, none⟩), .int .i64 i] w fun e w' => ∃ c', e = .returned (.tuple #[.int .i64 (closeN c.s.ct i), .int .i64 (closeQ c.s.ct i)]) ∧ c.To w B c' w' (closeC c.s.ct i) c.st := by
  refine (mclose_any c.s B i w h.ms).mono ?_
  rintro e w' ⟨s', rfl, ht⟩
  obtain ⟨m, hm⟩ := closeC_log c.s.ct i
  exact ⟨_, rfl, h.merge ht (by rw [hm, List.length_append]; omega)⟩
theorem clog_pw (c : Cs) (B : Nat) (w : World) (h : c.Ok w B) :
    Calls Tryz.prog 36 #[.pointer (some ⟨c.s.g, 0, none⟩)] w (RetLp w (logM c.s.ct)) :=
  mlog_pw B c.s.g c.s.x c.s.AI c.s.cI c.s.ins c.s.added w h.ms.mg h.ms.gm
theorem clog_any (c : Cs) (B : Nat) (w : World) (h : c.Ok w B) :
    Calls Tryz.prog 36 #[.pointer (some ⟨c.s.g, 0, none⟩)] w (RetLm w (logM c.s.ct)) :=
  mlog_any B c.s.g c.s.x c.s.AI c.s.cI c.s.ins c.s.added w h.ms.mg h.ms.gm
end
/-- replicas have what the log makes of the beginning -/
def Played (r0 : Sr) (log : List Ent) (st : List Sr) : Prop := ∀ r ∈ st, r = playR r0 (log.take r.bs.length) ∧ r.bs.length ≤ log.length
section
variable {r0 : Sr} {log : List Ent} {st : List Sr} {ct : List (List (List Ent))}
theorem Played.grow (h : Played r0 log st) (m : List Ent) : Played r0 (log ++ m) st := fun r hr => by
  obtain ⟨h1, h2⟩ := h r hr
  rw [List.take_append_of_le_length h2]
  exact ⟨h1, by rw [List.length_append]; omega⟩
theorem mem_set {α : Type} {l : List α} {i : Nat} {a b : α} (h : b ∈ l.set i a) : b = a ∨ b ∈ l := by
  rcases List.mem_or_eq_of_mem_set h with h | h
  · exact .inr h
  · exact .inl h
theorem Played.step (h : Played r0 log st) {i : Nat} {r : Sr} {x : Ent} (hi : st[i]? = some r) (hx : log[r.bs.length]? = some x) : Played r0 log (st.set i (stepR r x)) := fun q hq => by
  rcases mem_set hq with rfl | hq
  · obtain ⟨h1, h2⟩ := h r (List.mem_of_getElem? hi)
    obtain ⟨hl, rfl⟩ := List.getElem?_eq_some_iff.1 hx
    have e : (stepR r log[r.bs.length]).bs.length = r.bs.length + 1 := by rw [stepR_bs]; simp
    rw [e, playR_take _ _ _ hl, ← h1]
    exact ⟨rfl, hl⟩
  · exact h q hq
theorem Played.cpS (h : Played r0 log st) (i : Int) : Played r0 log (cpS log st i) := by
  unfold Go.Proofs.YtefdipjhjgmokaaGreatDoor.cpS
  split
  · split
    · split
      · rename_i h1 _ _ h2; exact h.step h1 h2
      · exact h
    · exact h
  · exact h
theorem Played.ctS (h : Played r0 log st) (i k : Int) : Played r0 log (ctS st i k) := by
  unfold Go.Proofs.YtefdipjhjgmokaaGreatDoor.ctS
  split
  · split
    · next hk => exact fun q hq => (mem_set hq).elim (fun e => by rw [e]; exact h _ (List.mem_of_getElem? hk)) (h q)
    · exact h
  · exact h
theorem Played.add (h : Played r0 (logM ct) st) (i : Int) (x : Ent) : Played r0 (logM (addC ct i x)) st := by rw [addC_log]; exact h
theorem Played.close (h : Played r0 (logM ct) st) (i : Int) : Played r0 (logM (closeC ct i)) st := by
  obtain ⟨m, hm⟩ := closeC_log ct i
  rw [hm]; exact h.grow m
theorem Played.first (h0 : r0.bs = []) (n : Nat) : Played r0 log (List.replicate n r0) := fun r hr => by
  have := List.eq_of_mem_replicate hr
  subst this
  rw [h0]
  exact ⟨rfl, Nat.zero_le _⟩
end
end Go.Proofs.YtefdipjhjgmokaaGreatDoor
