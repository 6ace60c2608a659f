/-
  rotop.fed.
-/
import Derived.Test.YtefdipjhjgmokaaGreatDoorBw25
import Derived.Test.YtefdipjhjgmokaaGreatDoorBw30
import Derived.Test.YtefdipjhjgmokaaGreatDoorBw31
import Derived.Lib.MinMax
set_option linter.unusedVariables false
set_option linter.unusedSimpArgs false
namespace Go.Proofs.YtefdipjhjgmokaaGreatDoor
open Go.RowKit

/-- all operations are as Deeds makes them -/
def GoodC (ct : List (List (List Ent))) : Prop := ∀ b ∈ ct, ∀ l ∈ b, ∀ e ∈ l, ∀ o ∈ e.d, GoodO o
theorem GoodC.close {ct : List (List (List Ent))} (h : GoodC ct) (i : Nat) : GoodC (closeM ct i) := fun b hb l hl e he => by
  rcases mem_modify hb with hb | ⟨a, ha, rfl⟩
  · exact h b hb l hl e he
  · rcases List.mem_append.1 hl with hl | hl
    · exact h a (List.mem_of_getElem? ha) l hl e he
    · simp at hl; subst hl; simp at he
theorem GoodC.add {ct : List (List (List Ent))} (h : GoodC ct) (i : Nat) (x : Ent) (hx : ∀ o ∈ x.d, GoodO o) : GoodC (addM ct i x) := fun b hb l hl e he => by
  rcases mem_modify hb with hb | ⟨a, ha, rfl⟩
  · exact h b hb l hl e he
  · rcases mem_modify hl with hl | ⟨c, hc, rfl⟩
    · exact h a (List.mem_of_getElem? ha) l hl e he
    · rcases List.mem_append.1 he with he | he
      · exact h a (List.mem_of_getElem? ha) c (List.mem_of_getElem? hc) e he
      · simp at he; subst he; exact hx
theorem GoodC.new (n : Nat) : GoodC (List.replicate n [([] : List Ent)]) := fun b hb l hl e he => by
  have := List.eq_of_mem_replicate hb
  subst this
  simp at hl; subst hl; simp at he
theorem GoodC.log {ct : List (List (List Ent))} (h : GoodC ct) {e : Ent} (he : e ∈ logM ct) : ∀ o ∈ e.d, GoodO o := by
  obtain ⟨b, hb, l, hl, he⟩ := log_mem he
  exact h b hb l hl e he
/-- while things come in -/
structure TfH (w : World) (g n cn : Nat) (r0 : Sr) (Ad : Option Addr) (cd : Nat) (dd : List Dl) (k : Nat) (c : Cs) (wr : World) : Prop where
  ok : c.Ok wr w.heap.size
  gg : c.s.g = g
  len : c.s.ct.length = n
  tot : totM c.s.ct ≤ k
  bs : ∀ b ∈ c.s.ct, b ≠ [] ∧ b.length ≤ 1 + k
  good : GoodC c.s.ct
  rl : c.st.length = cn
  pl : Played r0 (logM c.s.ct) c.st
  dd : Dds wr w.heap.size Ad cd dd
  be : Below w.heap.size w wr
section
variable {w wr w' : World} {g n cn cd k : Nat} {r0 : Sr} {Ad : Option Addr} {dd : List Dl} {c c' : Cs}
theorem TfH.below (h : TfH w g n cn r0 Ad cd dd k c wr) (hb : Below wr.heap.size wr w') : TfH w g n cn r0 Ad cd dd k c w' := ⟨h.ok.below hb, h.gg, h.len, h.tot, h.bs, h.good, h.rl, h.pl, h.dd.below hb, h.be.trans (hb.mono h.be.size)⟩
theorem TfH.more (h : TfH w g n cn r0 Ad cd dd k c wr) : TfH w g n cn r0 Ad cd dd (k + 1) c wr := ⟨h.ok, h.gg, h.len, Nat.le_succ_of_le h.tot, fun b hb => ⟨(h.bs b hb).1, by have := (h.bs b hb).2; omega⟩, h.good, h.rl, h.pl, h.dd, h.be⟩
theorem Dds.fr {F : Nat → Prop} {w w' : World} {B : Nat} (h : Dds w B Ad cd dd) (hf : Fr F w w') (o1 : Off F w 40) (o2 : Off F w 71) : Dds w' B Ad cd dd :=
  ⟨hf.own_ty h.or o1, fun x hx => hf.own_ty (h.oo x hx) o2, h.ap, h.pw, h.good⟩
theorem TfH.dds (h : TfH w g n cn r0 Ad cd dd k c wr) {ct' : List (List (List Ent))} {st' : List Sr} (T : c.To wr w.heap.size c' w' ct' st') : Dds w' w.heap.size Ad cd dd ∧ Below w.heap.size w w' :=
  ⟨h.dd.fr T.fr (h.ok.off (by decide) (by decide) (by decide) (by decide) (by decide) (by decide) (by decide)) h.ok.offO, T.below_ h.ok (Nat.le_refl _) h.be⟩
theorem TfH.at_ (h : TfH w g n cn r0 Ad cd dd k c wr) {i : Nat} (hi : i < n) : ∃ b, c.s.ct[i]? = some b ∧ b ≠ [] ∧ b.length ≤ 1 + k := by
  obtain ⟨b, hb⟩ : ∃ b, c.s.ct[i]? = some b := ⟨_, List.getElem?_eq_getElem (by rw [h.len]; exact hi)⟩
  exact ⟨b, hb, h.bs b (List.mem_of_getElem? hb)⟩
theorem TfH.addQ_ (h : TfH w g n cn r0 Ad cd dd k c wr) {i : Nat} (hi : i < n) (hk : k < 60) {x : Ent} (hx : chkE x = 0) (hd : dropE x = x) : addQ c.s.ct (i : Int) x = 0 ∧ addC c.s.ct (i : Int) x = addM c.s.ct i x := by
  obtain ⟨h1, h2⟩ := addQ_ok (ct := c.s.ct) (i := i) (x := x) (by rw [h.len]; exact hi) hx (by have := h.tot; omega)
  exact ⟨h1, by rw [h2, hd]⟩
theorem TfH.add (h : TfH w g n cn r0 Ad cd dd k c wr) {i : Nat} (hi : i < n) {x : Ent} (hx : ∀ o ∈ x.d, GoodO o) (T : c.To wr w.heap.size c' w' (addM c.s.ct i x) c.st) : TfH w g n cn r0 Ad cd dd (k + 1) c' w' := by
  obtain ⟨b, hb, hne, hbl⟩ := h.at_ hi
  obtain ⟨t1, t2⟩ := h.dds T
  refine ⟨T.ok, T.g.trans h.gg, by rw [T.ct]; unfold addM; rw [List.length_modify]; exact h.len, by rw [T.ct, tot_add x hb hne]; have := h.tot; omega, fun a ha => ?_, by rw [T.ct]; exact h.good.add i x hx, by rw [T.st]; exact h.rl, by rw [T.ct, T.st, log_add]; exact h.pl, t1, t2⟩
  rw [T.ct] at ha
  rcases mem_modify ha with ha | ⟨d, hd, rfl⟩
  · exact ⟨(h.bs a ha).1, by have := (h.bs a ha).2; omega⟩
  · have := h.bs d (List.mem_of_getElem? hd)
    refine ⟨fun e => this.1 ?_, by rw [List.length_modify]; omega⟩
    have := congrArg List.length e
    rw [List.length_modify] at this
    exact List.length_eq_zero_iff.1 this
theorem TfH.closeQ_ (h : TfH w g n cn r0 Ad cd dd k c wr) {i : Nat} (hi : i < n) (hk : k < 60) : closeQ c.s.ct (i : Int) = 0 ∧ closeC c.s.ct (i : Int) = closeM c.s.ct i := by
  obtain ⟨b, hb, hne, hbl⟩ := h.at_ hi
  obtain ⟨h1, _, h3⟩ := closeQ_ok hb (by omega)
  exact ⟨h1, h3⟩
theorem TfH.close (h : TfH w g n cn r0 Ad cd dd k c wr) {i : Nat} (hi : i < n) (T : c.To wr w.heap.size c' w' (closeM c.s.ct i) c.st) : TfH w g n cn r0 Ad cd dd (k + 1) c' w' := by
  obtain ⟨b, hb, hne, hbl⟩ := h.at_ hi
  obtain ⟨t1, t2⟩ := h.dds T
  obtain ⟨m, hm, _⟩ := log_close c.s.ct i
  refine ⟨T.ok, T.g.trans h.gg, by rw [T.ct]; unfold closeM; rw [List.length_modify]; exact h.len, by rw [T.ct, tot_close hb]; exact Nat.le_succ_of_le h.tot, fun a ha => ?_, by rw [T.ct]; exact h.good.close i, by rw [T.st]; exact h.rl, by rw [T.ct, T.st, hm]; exact h.pl.grow m, t1, t2⟩
  rw [T.ct] at ha
  rcases mem_modify ha with ha | ⟨d, hd, rfl⟩
  · exact ⟨(h.bs a ha).1, by have := (h.bs a ha).2; omega⟩
  · have := h.bs d (List.mem_of_getElem? hd)
    exact ⟨by simp, by simp; omega⟩
theorem TfH.step (h : TfH w g n cn r0 Ad cd dd k c wr) (i : Int) (T : c.To wr w.heap.size c' w' c.s.ct (cpS (logM c.s.ct) c.st i)) : TfH w g n cn r0 Ad cd dd (k + 1) c' w' := by
  obtain ⟨t1, t2⟩ := h.dds T
  have h2 := h.more
  exact ⟨T.ok, T.g.trans h.gg, by rw [T.ct]; exact h.len, by rw [T.ct]; exact h2.tot, by rw [T.ct]; exact h2.bs, by rw [T.ct]; exact h.good, by rw [T.st, cpS_len]; exact h.rl, by rw [T.ct, T.st]; exact h.pl.cpS i, t1, t2⟩
theorem TfH.take (h : TfH w g n cn r0 Ad cd dd k c wr) (i j : Int) (T : c.To wr w.heap.size c' w' c.s.ct (ctS c.st i j)) : TfH w g n cn r0 Ad cd dd (k + 1) c' w' := by
  obtain ⟨t1, t2⟩ := h.dds T
  have h2 := h.more
  exact ⟨T.ok, T.g.trans h.gg, by rw [T.ct]; exact h.len, by rw [T.ct]; exact h2.tot, by rw [T.ct]; exact h2.bs, by rw [T.ct]; exact h.good, by rw [T.st, ctS_len]; exact h.rl, by rw [T.ct, T.st]; exact h.pl.ctS i j, t1, t2⟩
end
def TfI (w : World) (g n cn : Nat) (r0 : Sr) (Ad : Option Addr) (cd : Nat) (dd : List Dl) (m : Nat) (v18 i : Value) (wr : World) : Prop :=
  ∃ (k nx : Nat) (c : Cs), k ≤ m ∧ nx ≤ k ∧ i = .int .i64 k ∧ v18 = .int .i64 nx ∧ TfH w g n cn r0 Ad cd dd k c wr
def TfI2 (w : World) (g n cn : Nat) (r0 : Sr) (Ad : Option Addr) (cd : Nat) (dd : List Dl) (m : Nat) (i : Value) (wr : World) : Prop :=
  ∃ (k : Nat) (c : Cs), k ≤ n ∧ i = .int .i64 k ∧ TfH w g n cn r0 Ad cd dd (m + k) c wr
/-- what fed hands back -/
def RetTf (w : World) (cn : Nat) (zs ts : List Int) (e : Ending) (w' : World) : Prop :=
  ∃ (c : Cs) (A : Option Addr) (ce : Nat) (xs : List Em) (s : List Pr), e = .returned (.tuple #[.pointer (some ⟨c.s.g, 0, none⟩), .slice A xs.length ce, .bool true]) ∧ c.Ok w' w.heap.size ∧ xs.map entOf = logM c.s.ct ∧ EW w' w.heap.size A ce xs ∧ CAp c A ∧ c.st.length = cn ∧
    (∀ k, valOf s k = prV ts (min ts.length 30) k) ∧ Played ⟨valOf s, mpC zs, mpO zs, []⟩ (logM c.s.ct) c.st ∧ GoodC c.s.ct ∧ Below w.heap.size w w'
/-- the same, and the rows of operations lie apart -/
def RetTfP (w : World) (cn : Nat) (zs ts : List Int) (e : Ending) (w' : World) : Prop :=
  ∃ (c : Cs) (A : Option Addr) (ce : Nat) (xs : List Em) (s : List Pr), e = .returned (.tuple #[.pointer (some ⟨c.s.g, 0, none⟩), .slice A xs.length ce, .bool true]) ∧ c.Ok w' w.heap.size ∧ xs.map entOf = logM c.s.ct ∧ EW w' w.heap.size A ce xs ∧ CAp c A ∧ c.st.length = cn ∧
    (∀ k, valOf s k = prV ts (min ts.length 30) k) ∧ Played ⟨valOf s, mpC zs, mpO zs, []⟩ (logM c.s.ct) c.st ∧ GoodC c.s.ct ∧ Below w.heap.size w w' ∧ xs.Pairwise fun x y => ∀ k, blk x.D = some k → blk y.D ≠ some k
set_option maxHeartbeats 8000000 in
set_option maxRecDepth 100000 in
theorem tfed_pw (P T L D : Option Addr) (cp ct cl cd : Nat) (zs ts : List Int) (ps ds : List Cl) (i0 n0 : Int) (w : World) (hP : IS w P zs) (hl : zs.length ≤ cp) (hc : cp ≤ 9223372036854775807) (hn : P = none → cp = 0)
    (hT : IS w T ts) (hlt : ts.length ≤ ct) (hct : ct ≤ 9223372036854775807) (hnt : T = none → ct = 0)
    (hL : LS w L ps) (hLl : ps.length ≤ cl) (hLc : cl ≤ 9223372036854775807) (hLn : L = none → cl = 0)
    (hD : LS w D ds) (hDl : ds.length ≤ cd) (hDc : cd ≤ 9223372036854775807) (hDn : D = none → cd = 0) :
    Calls Tryz.prog 9 #[.int .i64 i0, .int .i64 n0, .slice P zs.length cp, .slice T ts.length ct, .slice L ps.length cl, .slice D ds.length cd] w (RetTfP w (1 + wi n0 4) zs ts) := by
  have HW := hideP (show ∀ W, Calls Tryz.prog 17 #[.int .i64 i0, .int .i64 4] W fun e w' => e = .returned (.int .i64 (wi i0 4)) ∧ W = w' from fun W => within_any i0 4 (by decide) (by decide) W)
  have HW2 := hideP (show ∀ W, Calls Tryz.prog 17 #[.int .i64 n0, .int .i64 4] W fun e w' => e = .returned (.int .i64 (wi n0 4)) ∧ W = w' from fun W => within_any n0 4 (by decide) (by decide) W)
  have hw4 := wi_lt i0 4 (by decide)
  have hn4 := wi_lt n0 4 (by decide)
  generalize wi i0 4 = q at HW hw4
  generalize wi n0 4 = qn at HW2 hn4 ⊢
  have gq : IntKind.i64.wrap (1 + (q : Int)) = ((1 + q : Nat) : Int) := by simp only [IntKind.wrap_i64]; omega
  have gqn : IntKind.i64.wrap (1 + (qn : Int)) = ((1 + qn : Nat) : Int) := by simp only [IntKind.wrap_i64]; omega
  obtain ⟨n, hn'⟩ : ∃ n, n = 1 + q := ⟨_, rfl⟩
  obtain ⟨cn, hcn⟩ : ∃ n, n = 1 + qn := ⟨_, rfl⟩
  rw [← hn'] at gq
  rw [← hcn] at gqn ⊢
  have hn1 : 1 ≤ n ∧ n ≤ 4 := by omega
  have hc1 : 1 ≤ cn ∧ cn ≤ 4 := by omega
  obtain ⟨m, hm⟩ : ∃ m : Nat, m = min ps.length 50 := ⟨_, rfl⟩
  have hm1 : m ≤ ps.length := by omega
  have hm50 : m ≤ 50 := by omega
  have gm : min (ps.length : Int) 50 = (m : Int) := by omega
  have hsl := slice_rows L ps.length cl m (m : Int) rfl (by omega) hLn
  have HLS := hideP (fun (W : World) (hb : Below w.heap.size w W) => hL.below hb)
  clear hn' hcn hm hL
  go_enter Tryz.func9, Tryz.ntmps9
  go_wp2_with fail
  refine (HW.out _).mono ?_
  rintro e w' ⟨rfl, rfl⟩
  clear HW
  go_wp2_with fail
  refine (HW2.out _).mono ?_
  rintro e w' ⟨rfl, rfl⟩
  clear HW2 hw4 hn4
  go_wp2_with fail
  refine (kmap_is P cp zs _ hP (by omega)).mono ?_
  rintro e w2 ⟨A, ca, O, co, rfl, hmo, hb2⟩
  replace hT := hT.below hb2
  replace hD := hD.below hb2
  clear hP
  go_wp2_with fail
  refine (pairs_is T ct ts _ hT hlt hct hnt).mono ?_
  rintro e w3 ⟨As, cs', s, rfl, hsv, hsm, hvs, hb3⟩
  replace hD := hD.below hb3
  have b3 := hb2.trans (hb3.mono hb2.size)
  have HN := hideP (cnew_ok n cn ⟨A, ca, mpC zs, O, co, mpO zs⟩ As cs' s w3 hn1.1 hn1.2 hc1.1 hc1.2 (hmo.below hb3).ms hsv.ps (mp_ok zs) hsm.ok)
  simp only at HN
  clear hb3 hb2 hmo hsv hT
  go_wp2_with fail
  refine HN.out.mono ?_
  clear HN
  rintro e w4 ⟨c, rfl, hok, hct0, hst0, hb4⟩
  have b4 := b3.trans (hb4.mono b3.size)
  have hok4 := hok.mono b3.size
  replace hD := hD.below hb4
  clear hok hb4 b3
  generalize hr0 : (⟨valOf s, mpC zs, mpO zs, []⟩ : Sr) = r0 at hst0
  have hr00 : r0.bs = [] := by rw [← hr0]
  have HFIN := hideP (show (∀ k, valOf s k = prV ts (min ts.length 30) k) ∧ (⟨valOf s, mpC zs, mpO zs, []⟩ : Sr) = r0 from ⟨hvs, hr0⟩)
  clear hr0 hsm hvs
  go_wp2_with fail
  refine (deeds_any D cd 20 ds _ hD hDl hDc hDn (by decide)).mono ?_
  rintro e w5 ⟨Ad, cdd, dd, rfl, hdd, hdl, hb5⟩
  generalize hg : c.s.g = g at ⊢
  have hI : TfI w g n cn r0 Ad cdd dd m (.int .i64 0) (.int .i64 0) w5 := ⟨0, 0, c, Nat.zero_le _, Nat.le_refl _, rfl, rfl, hok4.below hb5, hg, by rw [hct0, List.length_replicate], by rw [hct0, tot_new]; exact Nat.le_refl _, fun b hb => by
    rw [hct0] at hb
    have := List.eq_of_mem_replicate hb
    subst this; simp, by rw [hct0]; exact GoodC.new n, by rw [hst0, List.length_replicate], by rw [hst0]; exact Played.first hr00 cn, ⟨hdd.or.mono b4.size, fun x hx => (hdd.oo x hx).mono b4.size, hdd.ap, hdd.pw, hdd.good⟩, b4.trans (hb5.mono b4.size)⟩
  clear hD hDl hDc hDn hok4 hct0 hst0 hdd b4 hb5 hg hr00
  go_wp2_with fail
  go_loopw [18, 53] (TfI w g n cn r0 Ad cdd dd m) (fun _ i _ => m - (intOf i).toNat)
  case atStart => exact hI
  case round =>
    clear hI
    obtain ⟨k, nx, c, hk, hnx, rfl, rfl, h⟩ := hrel
    by_cases hkm : k < m
    · have hLS := HLS.out wr h.be
      obtain ⟨b, o, hA, hbl, q1⟩ := hLS.vs k (clV ps[k]) (by simp [show k < ps.length by omega])
      obtain ⟨hI, hzc, hcc⟩ := hLS.is_ _ (List.getElem_mem (show k < ps.length by omega))
      subst hA
      generalize ps[k]'(by omega) = x at q1 hI hzc hcc
      obtain ⟨Ac, cc, ys⟩ := x
      simp only [clV] at q1
      simp only at hI hzc hcc
      have g1 : (0 : Int) ≤ (k : Int) := by omega
      have g2 : (k : Int) < (m : Int) := by omega
      by_cases h3 : ys.length < 3
      · have g3 : (ys.length : Int) < 3 := by omega
        have h2 := h.more
        clear h hLS hI
        go_wp2_with fail
        go_roundw
        case rel => exact ⟨k + 1, nx, c, by omega, by omega, by go_num, rfl, h2⟩
        case measure => simp [intOf]; omega
      · have g3 : ¬ (ys.length : Int) < 3 := by omega
        obtain ⟨bz, oz, hz, hblz, z1⟩ := hI 1 _ (List.getElem?_eq_getElem (by omega))
        obtain ⟨_, _, e, _, z0⟩ := hI 0 _ (List.getElem?_eq_getElem (by omega))
        rw [hz] at e; injection e with e; injection e with e1 e2 _
        subst e1; subst e2
        obtain ⟨_, _, e, _, z2⟩ := hI 2 _ (List.getElem?_eq_getElem (by omega))
        rw [hz] at e; injection e with e; injection e with e1 e2 _
        subst e1; subst e2
        subst hz
        rw [Nat.add_zero] at z0
        have HWI := hideP (show ∀ (x : Int) (W : World), Calls Tryz.prog 17 #[.int .i64 x, .int .i64 (n : Int)] W fun e w' => e = .returned (.int .i64 (wi x n)) ∧ W = w' from fun x W => within_any x n hn1.1 (by omega) W)
        have HWC := hideP (show ∀ (x : Int) (W : World), Calls Tryz.prog 17 #[.int .i64 x, .int .i64 (cn : Int)] W fun e w' => e = .returned (.int .i64 (wi x cn)) ∧ W = w' from fun x W => within_any x cn hc1.1 (by omega) W)
        have HW0 := hideP (show Calls Tryz.prog 17 #[.int .i64 ys[0], .int .i64 8] wr fun e w' => e = .returned (.int .i64 (wi ys[0] 8)) ∧ wr = w' from within_any ys[0] 8 (by decide) (by decide) wr)
        have hi := wi_lt ys[1] n hn1.1
        have ht8 := wi_lt ys[0] 8 (by decide)
        have g4 : (2 : Int) < (ys.length : Int) := by omega
        have g5 : (1 : Int) < (ys.length : Int) := by omega
        have g6 : (0 : Int) < (ys.length : Int) := by omega
        have HKM := hideP (fun (W : World) (hb : Below wr.heap.size wr W) => kmap_mk2 (some ⟨bz, oz, none⟩) cc ys W (hI.below hb) (by omega))
        generalize ys[0] = y0 at z0 HW0 ht8
        generalize ys[1] = y1 at z1 hi
        generalize ys[2] = y2 at z2
        generalize wi y0 8 = t at HW0 ht8
        have HW1 := hideP (HWI.out y1 wr)
        generalize wi y1 n = i at HW1 hi
        have ht : (t = 0 ∨ t = 1 ∨ t = 2) ∨ t = 3 ∨ (t = 4 ∨ t = 5) ∨ t = 6 ∨ t = 7 := by omega
        clear hLS hI ht8
        rcases ht with ht | rfl | ht | rfl | rfl
        · by_cases hnl : nx < dd.length
          · obtain ⟨b0, o0, hA0, hbl0, p0⟩ := h.dd.or.vs nx (dlV dd[nx]) (by simp [hnl])
            have hoo := h.dd.oo _ (List.getElem_mem hnl)
            have hgo := h.dd.good _ (List.getElem_mem hnl)
            generalize dd[nx] = x at p0 hoo hgo
            obtain ⟨xD, xc, xd⟩ := x
            unfold dlV at p0
            simp only at p0 hoo hgo
            have hD' := h.below (Below.refl _ wr).drew
            have hes : ES wr.drew ⟨xD, xc, xd, false, noM⟩ := ⟨hoo.os.go (Below.refl _ wr).drew, (noM_mo wr.drew 0).ms, fun o ho => by have := (hgo.1 o ho).n; omega⟩
            have HAD := hideP (cadd_any c _ (i : Int) ⟨xD, xc, xd, false, noM⟩ _ hD'.ok hes)
            obtain ⟨e1, e2⟩ := hD'.addQ_ hi (by omega) (x := entOf ⟨xD, xc, xd, false, noM⟩) (good_deed (x := ⟨xD, xc, xd⟩) hgo) rfl
            rw [e1, e2, h.gg] at HAD
            have HNX := hideP (fun (c' : Cs) (w' : World) (TT : c.To wr.drew w.heap.size c' w' (addM c.s.ct i (entOf ⟨xD, xc, xd, false, noM⟩)) c.st) => hD'.add hi hgo.1 TT)
            have g7 : (nx : Int) < (dd.length : Int) := by omega
            have g8 : (0 : Int) ≤ (nx : Int) := by omega
            have g9 : IntKind.i64.wrap ((nx : Int) + 1) = ((nx + 1 : Nat) : Int) := by simp only [IntKind.wrap_i64]; omega
            subst hA0
            unfold emV emC noM at HAD
            simp only [List.length_nil] at HAD
            clear h hD' hes hoo hgo e1 e2 HKM HWC HWI
            rcases ht with rfl | rfl | rfl
            all_goals
              go_wp2_with fail
              refine HW1.out.mono ?_
              rintro e w' ⟨rfl, rfl⟩
              go_wp2_with fail
              refine HW0.out.mono ?_
              rintro e w' ⟨rfl, rfl⟩
              go_wp2_with fail
              go_region_law (
                (go_simp
                 go_at_call 14
                 refine HAD.out.mono ?_
                 rintro e w6 ⟨c', rfl, TT⟩
                 have hN := HNX.out c' w6 TT
                 clear TT))
              all_goals
                go_wp2_with fail
                go_roundw
                case rel => exact ⟨k + 1, nx + 1, c', by omega, by omega, by go_num, rfl, hN⟩
                case measure => simp [intOf]; omega
          · have h2 := h.more
            have g7 : ¬ (nx : Int) < (dd.length : Int) := by omega
            clear h HKM HWC HWI
            rcases ht with rfl | rfl | rfl
            all_goals
              go_wp2_with fail
              refine HW1.out.mono ?_
              rintro e w' ⟨rfl, rfl⟩
              go_wp2_with fail
              refine HW0.out.mono ?_
              rintro e w' ⟨rfl, rfl⟩
              go_wp2_with fail
              go_roundw
              case rel => exact ⟨k + 1, nx, c, by omega, by omega, by go_num, rfl, h2⟩
              case measure => simp [intOf]; omega
        · have hD' := h.below (Below.refl _ wr).drew
          have HADM := hideP (fun (W : World) (hb : Below wr.drew.heap.size wr.drew W) (mp : Mp) (hmo : MO W wr.drew.heap.size mp) (hok : OkM mp.cs mp.os) => show Calls Tryz.prog 14 #[.pointer (some ⟨g, 0, none⟩), .int .i64 (i : Int), .agg #[.slice none 0 0, .bool true, .slice mp.A mp.cs.length mp.ca, .slice mp.O mp.os.length mp.co]] W fun e w' => ∃ c', e = .returned (.int .i64 0) ∧ TfH w g n cn r0 Ad cdd dd (k + 1) c' w' from by
            have hE := hD'.below hb
            have HAD := cadd_any c _ (i : Int) ⟨none, 0, [], true, mp⟩ _ hE.ok ⟨OS.nil, hmo.ms, by simp⟩
            obtain ⟨e1, e2⟩ := hE.addQ_ hi (by omega) (x := entOf ⟨none, 0, [], true, mp⟩) (chkM_ok.2 hok) rfl
            rw [e1, e2, hE.gg] at HAD
            refine HAD.mono ?_
            rintro e w' ⟨c', rfl, TT⟩
            exact ⟨c', rfl, hE.add hi (by intro o ho; simp [entOf] at ho) TT⟩)
          have HKD := hideP (HKM.out wr.drew (Below.refl _ wr).drew)
          clear h hD' HKM HWC HWI
          go_wp2_with fail
          refine HW1.out.mono ?_
          rintro e w' ⟨rfl, rfl⟩
          go_wp2_with fail
          refine HW0.out.mono ?_
          rintro e w' ⟨rfl, rfl⟩
          go_wp2_with fail
          go_region_law (first
            | (go_simp
               go_at_call 14
               refine (HADM.out w6 hb6 mp hmo hokm).mono ?_
               rintro e w7 ⟨c', rfl, hN⟩)
            | (go_simp
               go_at_call 11
               refine HKD.out.mono ?_
               rintro e w6 ⟨mp, rfl, hokm, hmo, hb6⟩))
          all_goals
            clear hmo hokm hb6 HADM HKD
            go_wp2_with fail
            go_roundw
            case rel => exact ⟨k + 1, nx, c', by omega, by omega, by go_num, rfl, hN⟩
            case measure => simp [intOf]; omega
        · have HCL := hideP (cclose_any c _ (i : Int) wr h.ok)
          obtain ⟨e1, e2⟩ := h.closeQ_ hi (by omega)
          rw [e1, e2, h.gg] at HCL
          have HNX := hideP (fun (c' : Cs) (w' : World) (TT : c.To wr w.heap.size c' w' (closeM c.s.ct i) c.st) => h.close hi TT)
          generalize closeN c.s.ct (i : Int) = cN at HCL
          clear h e1 e2 HKM HWC HWI
          rcases ht with rfl | rfl
          all_goals
            go_wp2_with fail
            refine HW1.out.mono ?_
            rintro e w' ⟨rfl, rfl⟩
            go_wp2_with fail
            refine HW0.out.mono ?_
            rintro e w' ⟨rfl, rfl⟩
            go_wp2_with fail
            refine HCL.out.mono ?_
            rintro e w6 ⟨c', rfl, TT⟩
            have hN := HNX.out c' w6 TT
            clear TT HCL HNX
            go_wp2_with fail
            go_roundw
            case rel => exact ⟨k + 1, nx, c', by omega, by omega, by go_num, rfl, hN⟩
            case measure => simp [intOf]; omega
        · have HST := hideP (cstep_any c _ ((wi y2 cn : Nat) : Int) wr h.ok)
          rw [h.gg] at HST
          have HNX := hideP (fun (c' : Cs) (w' : World) (TT : c.To wr w.heap.size c' w' c.s.ct (cpS (logM c.s.ct) c.st ((wi y2 cn : Nat) : Int))) => h.step _ TT)
          generalize cpS (logM c.s.ct) c.st ((wi y2 cn : Nat) : Int) = z1 at HST HNX
          generalize cpB (logM c.s.ct) c.st ((wi y2 cn : Nat) : Int) = z2 at HST
          generalize cpQ (logM c.s.ct) c.st ((wi y2 cn : Nat) : Int) = z3 at HST
          have HWY := hideP (HWC.out y2 wr)
          generalize wi y2 cn = iy at HST HWY
          clear h HKM HWC HWI
          go_wp2_with fail
          refine HW1.out.mono ?_
          rintro e w' ⟨rfl, rfl⟩
          go_wp2_with fail
          refine HW0.out.mono ?_
          rintro e w' ⟨rfl, rfl⟩
          go_wp2_with fail
          refine HWY.out.mono ?_
          rintro e w' ⟨rfl, rfl⟩
          go_wp2_with fail
          refine HST.out.mono ?_
          rintro e w6 ⟨c', rfl, TT⟩
          have hN := HNX.out c' w6 TT
          clear TT HST HNX HWY
          go_wp2_with fail
          go_roundw
          case rel => exact ⟨k + 1, nx, c', by omega, by omega, by go_num, rfl, hN⟩
          case measure => simp [intOf]; omega
        · have hD' := h.below (Below.refl _ wr).drew
          have HTK := hideP (fun (a b : Nat) => show Calls Tryz.prog 45 #[.pointer (some ⟨g, 0, none⟩), .int .i64 (a : Int), .int .i64 (b : Int)] wr.drew fun e w' => ∃ (c' : Cs) (z : Int), e = .returned (.int .i64 z) ∧ TfH w g n cn r0 Ad cdd dd (k + 1) c' w' from by
            have HT := ctake_any c _ (a : Int) (b : Int) _ hD'.ok
            rw [hD'.gg] at HT
            refine HT.mono ?_
            rintro e w' ⟨c', rfl, TT⟩
            exact ⟨c', _, rfl, hD'.take _ _ TT⟩)
          have HWD := hideP (fun (x : Int) => HWC.out x wr.drew)
          clear h hD' HKM HWC HWI
          go_wp2_with fail
          refine HW1.out.mono ?_
          rintro e w' ⟨rfl, rfl⟩
          go_wp2_with fail
          refine HW0.out.mono ?_
          rintro e w' ⟨rfl, rfl⟩
          go_wp2_with fail
          go_region_law (first
            | (go_simp
               go_at_call 45
               refine (HTK.out _ _).mono ?_
               rintro e w7 ⟨c', z, rfl, hN⟩)
            | (go_simp
               go_at_call 17
               refine (HWD.out _).mono ?_
               rintro e w' ⟨rfl, rfl⟩))
          all_goals
            clear HTK HWD
            go_wp2_with fail
            go_roundw
            case rel => exact ⟨k + 1, nx, c', by omega, by omega, by go_num, rfl, hN⟩
            case measure => simp [intOf]; omega
    · obtain rfl : k = m := by omega
      clear HLS hsl gm hm1
      go_wp2_with fail
      go_loopw [137] (TfI2 w g n cn r0 Ad cdd dd k) (fun i _ => n - (intOf i).toNat)
      case atStart => exact ⟨0, c, Nat.zero_le _, rfl, h⟩
      case round =>
        clear h
        obtain ⟨i, c, hin, rfl, h⟩ := hrel
        by_cases hi : i < n
        · have HCL := hideP (cclose_any c _ (i : Int) wr h.ok)
          obtain ⟨e1, e2⟩ := h.closeQ_ hi (by omega)
          rw [e1, e2, h.gg] at HCL
          have HNX := hideP (fun (c' : Cs) (w' : World) (TT : c.To wr w.heap.size c' w' (closeM c.s.ct i) c.st) => h.close hi TT)
          generalize closeN c.s.ct (i : Int) = cN at HCL
          have g2 : (i : Int) < (n : Int) := by omega
          clear h e1 e2
          go_wp2_with fail
          refine HCL.out.mono ?_
          rintro e w6 ⟨c', rfl, TT⟩
          have hN := HNX.out c' w6 TT
          clear TT HCL HNX
          go_wp2_with fail
          go_roundw
          case rel => exact ⟨i + 1, c', by omega, by go_num, hN⟩
          case measure => simp [intOf]; omega
        · obtain rfl : i = n := by omega
          have HLG := hideP (clog_pw c _ wr h.ok)
          rw [h.gg] at HLG
          have HF := hideP (fun (A : Option Addr) (ce : Nat) (xs : List Em) (w' : World) (h1 : xs.map entOf = logM c.s.ct) (h2 : EW w' wr.heap.size A ce xs) (h3 : Below wr.heap.size wr w') (h4 : xs.Pairwise fun x y => ∀ k, blk x.D = some k → blk y.D ≠ some k) => show RetTfP w cn zs ts (.returned (.tuple #[.pointer (some ⟨g, 0, none⟩), .slice A xs.length ce, .bool true])) w' from
            ⟨c, A, ce, xs, s, by rw [h.gg], h.ok.below h3, h1, h2.mono h.be.size, CAp.fresh h2 h.ok (Nat.le_refl _), h.rl, HFIN.out.1, by rw [HFIN.out.2]; exact h.pl, h.good, h.be.trans (h3.mono h.be.size), h4⟩)
          clear h HFIN
          go_wp2_with fail
          refine HLG.out.mono ?_
          rintro e w6 ⟨A, ce, xs, rfl, h1, h2, h3, h4⟩
          have hF := hideP (HF.out A ce xs w6 h1 h2 h3 h4)
          clear h1 h2 h3 h4 HF HLG
          go_wp2_with fail
          go_ret3
          exact hF.out
theorem tfed_any (P T L D : Option Addr) (cp ct cl cd : Nat) (zs ts : List Int) (ps ds : List Cl) (i0 n0 : Int) (w : World) (hP : IS w P zs) (hl : zs.length ≤ cp) (hc : cp ≤ 9223372036854775807) (hn : P = none → cp = 0)
    (hT : IS w T ts) (hlt : ts.length ≤ ct) (hct : ct ≤ 9223372036854775807) (hnt : T = none → ct = 0)
    (hL : LS w L ps) (hLl : ps.length ≤ cl) (hLc : cl ≤ 9223372036854775807) (hLn : L = none → cl = 0)
    (hD : LS w D ds) (hDl : ds.length ≤ cd) (hDc : cd ≤ 9223372036854775807) (hDn : D = none → cd = 0) :
    Calls Tryz.prog 9 #[.int .i64 i0, .int .i64 n0, .slice P zs.length cp, .slice T ts.length ct, .slice L ps.length cl, .slice D ds.length cd] w (RetTf w (1 + wi n0 4) zs ts) :=
  (tfed_pw P T L D cp ct cl cd zs ts ps ds i0 n0 w hP hl hc hn hT hlt hct hnt hL hLl hLc hLn hD hDl hDc hDn).mono fun e w' ⟨c, A, ce, xs, s, h1, h2, h3, h4, h5, h6, h7, h8, h9, h10, _⟩ => ⟨c, A, ce, xs, s, h1, h2, h3, h4, h5, h6, h7, h8, h9, h10⟩
end Go.Proofs.YtefdipjhjgmokaaGreatDoor
