/-
  plan.check.
  What the transactions of a log make, plainly, and rows of transactions beside Copies (no body of the program in it).
  rotop.begun and storeKept.
  deed.sorted: keys in order and without duplicates, in the row of the argument.
  lock's union: the keys of two lists, sorted and without duplicates.
-/
import Derived.Test.YtefdipjhjgmokaaGreatBv7
import Derived.Test.YtefdipjhjgmokaaGreatBv37
import Derived.Test.YtefdipjhjgmokaaGreatBv40
import Derived.Test.YtefdipjhjgmokaaGreatBv2
import Derived.Test.YtefdipjhjgmokaaGreatBv46
import Derived.Test.YtefdipjhjgmokaaGreatBv14
import Derived.Test.YtefdipjhjgmokaaGreatBv27
import Derived.Shelf.Sort.Plain
import Derived.Shelf.Slices.CompactS
import Derived.Shelf.Slices.In.SortNone
import Derived.Sort.OwnSorted
import Derived.Lib.OwnBridge
import Derived.WalkKit
import Derived.Test.YtefdipjhjgmokaaGreatBv19
set_option linter.unusedVariables false
set_option linter.unusedSimpArgs false
namespace Go.Proofs.YtefdipjhjgmokaaGreat
open Go.RowKit

/-- the error of a list of transactions -/
def chkP (dd : List (List Opr)) : Int := if 60 < dd.length then 2 else chkDs dd
theorem chkP_zero {dd : List (List Opr)} : chkP dd = 0 ↔ dd.length ≤ 60 ∧ ∀ d ∈ dd, chkD d = 0 := by
  unfold chkP
  by_cases h : 60 < dd.length
  · rw [if_pos h]; exact ⟨fun e => absurd e (by decide), fun e => by omega⟩
  · rw [if_neg h, chkDs_zero]; exact ⟨fun e => ⟨by omega, e⟩, fun e => e.2⟩

set_option maxHeartbeats 400000 in
set_option maxRecDepth 100000 in
theorem pcheck_any (A : Option Addr) (c : Nat) (ds : List Dl) (w : World) (hD : DS w A ds) (hl : ds.length ≤ 9223372036854775807) :
    Calls Tryz.prog 26 #[.slice A ds.length c] w fun e w' => e = .returned (.int .i64 (chkP (ddOf ds))) ∧ Below w.heap.size w w' := by
  by_cases h60 : 60 < ds.length
  · have HC := hideP (show chkP (ddOf ds) = 2 by unfold chkP; rw [ddOf_len, if_pos h60])
    have g1 : (60 : Int) < (ds.length : Int) := by omega
    go_enter Tryz.func26, Tryz.ntmps26
    go_wp2_with fail
    go_ret
    exact ⟨ret_int HC.out.symm, Below.refl _ _⟩
  have HC := hideP (show chkP (ddOf ds) = chkDs (ddOf ds) by unfold chkP; rw [ddOf_len, if_neg h60])
  have g1 : ¬ (60 : Int) < (ds.length : Int) := by omega
  go_enter Tryz.func26, Tryz.ntmps26
  go_wp2_with fail
  go_loopw [11] (fun i wr => ∃ k : Nat, k ≤ ds.length ∧ i = .int .i64 k ∧ chkDs (ddOf ds) = chkDs ((ddOf ds).drop k) ∧ Below w.heap.size w wr) (fun i _ => ds.length - (intOf i).toNat)
  case atStart => exact ⟨0, Nat.zero_le _, rfl, rfl, Below.refl _ _⟩
  case round =>
    obtain ⟨k, hk, rfl, hchk, hb⟩ := hrel
    by_cases hlt : k < ds.length
    · rw [chkDs_next (by rw [ddOf_len]; exact hlt)] at hchk
      obtain ⟨⟨b, o, rfl, hbl, q1⟩, hos⟩ := (hD.below hb).at_ hlt
      have hdk : (ddOf ds)[k]'(by rw [ddOf_len]; exact hlt) = ds[k].d := by simp [ddOf]
      rw [hdk] at hchk
      generalize ds[k] = x at hchk q1 hos
      obtain ⟨Dx, cx, dx⟩ := x
      simp only [dlV] at q1 hos hchk
      have HK := hideP hchk
      have hab := (Below.refl wr.heap.size wr).alloc (Nat.le_refl _) (.cells #[.slice Dx dx.length cx] 32)
      have hb2 := hb.alloc hb.size (.cells #[.slice Dx dx.length cx] 32)
      have hos2 := hos.go hab
      clear hchk hdk hD hos hab
      go_wp2_with fail
      refine (dcheck_any Dx cx dx _ hos2).mono ?_
      rintro e w3 ⟨rfl, hb3⟩
      have hb4 := hb2.trans (hb3.mono hb2.size)
      clear hb hb2 hb3 hos2
      by_cases h0 : chkD dx = 0
      · have H0 := hideP h0
        rw [h0]
        clear h0
        go_wp2_with fail
        go_roundw
        case rel => exact ⟨k + 1, by omega, by go_num, by rw [HK.out, if_pos H0.out], hb4⟩
        case measure => simp [intOf]; omega
      · have H0 := hideP h0
        have d0 : (chkD dx != 0) = true := by simp [h0]
        clear h0
        generalize hq : chkD dx = q at d0
        have HQ := hideP hq
        clear hq
        go_wp2_with fail
        go_ret
        exact ⟨ret_int (by rw [HC.out, HK.out, if_neg H0.out, HQ.out]), hb4⟩
    · go_wp2_with fail
      go_ret
      exact ⟨ret_int (by rw [HC.out, hchk, List.drop_of_length_le (by rw [ddOf_len]; omega)]; rfl), hb⟩
end Go.Proofs.YtefdipjhjgmokaaGreat

set_option linter.unusedVariables false
set_option linter.unusedSimpArgs false
namespace Go.Proofs.YtefdipjhjgmokaaGreat
open Go.RowKit

/-- the transactions of a log -/
def ddE : List Ent → List (List Opr)
  | [] => []
  | e :: r => if e.isM then ddE r else e.d :: ddE r
theorem ddE_app (a b : List Ent) : ddE (a ++ b) = ddE a ++ ddE b := by
  induction a with
  | nil => rfl
  | cons e r ih =>
    simp only [List.cons_append, ddE, ih]
    cases e.isM <;> rfl
theorem ddE_len (a : List Ent) : (ddE a).length ≤ a.length := by
  induction a with
  | nil => exact Nat.le_refl _
  | cons e r ih =>
    simp only [ddE]
    cases e.isM
    · simp; exact ih
    · simp; omega
theorem ddE_mem {a : List Ent} {d : List Opr} (h : d ∈ ddE a) : ∃ e ∈ a, e.isM = false ∧ e.d = d := by
  induction a with
  | nil => simp [ddE] at h
  | cons e r ih =>
    simp only [ddE] at h
    cases he : e.isM with
    | false =>
      rw [he, if_neg (by decide)] at h
      rcases List.mem_cons.1 h with rfl | h
      · exact ⟨e, by simp, he, rfl⟩
      · obtain ⟨x, h1, h2⟩ := ih h
        exact ⟨x, by simp [h1], h2⟩
    | true =>
      rw [he, if_pos rfl] at h
      obtain ⟨x, h1, h2⟩ := ih h
      exact ⟨x, by simp [h1], h2⟩
theorem ddE_take {es : List Ent} {i : Nat} {x : Ent} (h : es[i]? = some x) : ddE (es.take (i + 1)) = if x.isM then ddE (es.take i) else ddE (es.take i) ++ [x.d] := by
  obtain ⟨h1, h2⟩ := List.getElem?_eq_some_iff.1 h
  rw [List.take_succ_eq_append_getElem h1, ddE_app, h2]
  simp only [ddE]
  cases x.isM <;> simp
theorem play_val (es : List Ent) : ∀ r : Sr, (playR r es).v = (serV r.v (ddE es)).1 := by
  induction es with
  | nil => intro r; rfl
  | cons x es ih =>
    intro r
    show (playR (stepR r x) es).v = _
    rw [ih]
    unfold stepR
    simp only [ddE]
    cases x.isM <;> simp [serV]
theorem play_old (es : List Ent) : ∀ (r : Sr) (j : Nat), j < r.bs.length → (playR r es).bs[j]? = r.bs[j]? := by
  induction es with
  | nil => intro r j _; rfl
  | cons x es ih =>
    intro r j hj
    show (playR (stepR r x) es).bs[j]? = _
    rw [ih _ _ (by rw [stepR_bs]; simp; omega), stepR_bs, List.getElem?_append_left hj]
theorem play_told (es : List Ent) : ∀ (r : Sr) (i : Nat) (x : Ent), es[i]? = some x → x.isM = false → (playR r es).bs[r.bs.length + i]? = (serV r.v (ddE es)).2[(ddE (es.take i)).length]? := by
  induction es with
  | nil => intro r i x h; simp at h
  | cons y es ih =>
    intro r i x h hx
    show (playR (stepR r y) es).bs[_]? = _
    cases i with
    | zero =>
      simp at h
      subst h
      rw [play_old _ _ _ (by rw [stepR_bs]; simp), stepR_bs]
      simp [ddE, hx, serV, doneE]
    | succ i =>
      have h' : es[i]? = some x := by simpa using h
      have h2 := ih (stepR r y) i x h' hx
      rw [stepR_bs, List.length_append, List.length_singleton, show r.bs.length + 1 + i = r.bs.length + (i + 1) by omega] at h2
      rw [h2, List.take_succ_cons]
      unfold stepR
      simp only [ddE]
      cases y.isM <;> simp [serV]
theorem chkP_log {es : List Ent} (hl : es.length ≤ 60) (h : ∀ e ∈ es, chkE e = 0) : chkP (ddE es) = 0 :=
  chkP_zero.2 ⟨Nat.le_trans (ddE_len es) hl, fun d hd => by
    obtain ⟨e, he, hm, rfl⟩ := ddE_mem hd
    have := h e he
    unfold chkE at this
    rwa [hm, if_neg (by decide)] at this⟩
/-- the transactions of a log, where they lie -/
def dsX : List Em → List Dl
  | [] => []
  | x :: r => if x.isM then dsX r else ⟨x.D, x.c, x.d⟩ :: dsX r
theorem dsX_app (a b : List Em) : dsX (a ++ b) = dsX a ++ dsX b := by
  induction a with
  | nil => rfl
  | cons e r ih =>
    simp only [List.cons_append, dsX, ih]
    cases e.isM <;> rfl
theorem dsX_dd (a : List Em) : ddOf (dsX a) = ddE (a.map entOf) := by
  induction a with
  | nil => rfl
  | cons e r ih =>
    simp only [List.map_cons, ddE, dsX]
    show ddOf (if e.isM = true then _ else _) = if e.isM = true then _ else _
    cases e.isM
    · rw [if_neg (by decide), if_neg (by decide), ← ih]; rfl
    · rw [if_pos rfl, if_pos rfl, ← ih]
theorem dsX_len (a : List Em) : (dsX a).length = (ddE (a.map entOf)).length := by rw [← dsX_dd, ddOf_len]
theorem dsX_mem {a : List Em} {d : Dl} (h : d ∈ dsX a) : ∃ e ∈ a, d = ⟨e.D, e.c, e.d⟩ := by
  induction a with
  | nil => simp [dsX] at h
  | cons e r ih =>
    simp only [dsX] at h
    cases he : e.isM with
    | false =>
      rw [he, if_neg (by decide)] at h
      rcases List.mem_cons.1 h with rfl | h
      · exact ⟨e, by simp, rfl⟩
      · obtain ⟨x, h1, h2⟩ := ih h
        exact ⟨x, by simp [h1], h2⟩
    | true =>
      rw [he, if_pos rfl] at h
      obtain ⟨x, h1, h2⟩ := ih h
      exact ⟨x, by simp [h1], h2⟩
theorem dsX_take {xs : List Em} {i : Nat} {x : Em} (h : xs[i]? = some x) : dsX (xs.take (i + 1)) = if x.isM then dsX (xs.take i) else dsX (xs.take i) ++ [⟨x.D, x.c, x.d⟩] := by
  obtain ⟨h1, h2⟩ := List.getElem?_eq_some_iff.1 h
  rw [List.take_succ_eq_append_getElem h1, dsX_app, h2]
  simp only [dsX]
  cases x.isM <;> simp
/-- Copies, a log of them, and a row of its transactions -/
structure TpH (w : World) (g : Nat) (ct : List (List (List Ent))) (A : Option Addr) (ce : Nat) (xs : List Em) (Ad : Option Addr) (cd : Nat) (ds : List Dl) (st : List Sr) (c : Cs) (wr : World) : Prop where
  ok : c.Ok wr w.heap.size
  gg : c.s.g = g
  ct : c.s.ct = ct
  st : c.st = st
  ew : EW wr w.heap.size A ce xs
  ap : CAp c A
  row : OR wr w.heap.size 32 Ad cd (ds.map dlV)
  be : Below w.heap.size w wr
section
variable {w wr w' : World} {g ce cd : Nat} {ct : List (List (List Ent))} {A Ad : Option Addr} {xs : List Em} {ds : List Dl} {st st' : List Sr} {c c' : Cs}
theorem TpH.below (h : TpH w g ct A ce xs Ad cd ds st c wr) (hb : Below wr.heap.size wr w') : TpH w g ct A ce xs Ad cd ds st c w' := ⟨h.ok.below hb, h.gg, h.ct, h.st, h.ew.below hb, h.ap, h.row.below hb, h.be.trans (hb.mono h.be.size)⟩
theorem TpH.step (h : TpH w g ct A ce xs Ad cd ds st c wr) (T : c.To wr w.heap.size c' w' ct st') : TpH w g ct A ce xs Ad cd ds st' c' w' := by
  obtain ⟨e1, e2⟩ := h.ew.cto h.ok T h.ap
  exact ⟨T.ok, T.g.trans h.gg, T.ct, T.st, e1, e2, T.fr.own_ty h.row (h.ok.off (by decide) (by decide) (by decide) (by decide) (by decide) (by decide) (by decide)), T.below_ h.ok (Nat.le_refl _) h.be⟩
theorem TpH.grow (h : TpH w g ct A ce xs Ad cd ds st c wr) (hl : ds.length ≤ 1000) (x : Dl) (ty : TypeId) :
    ∃ Ad' cd' w', (Builtin.append_ #[29, 29] ty #[.slice Ad ds.length cd, .slice (some ⟨wr.heap.size, 0, none⟩) 1 1]).run Tryz.prog (wr.alloc (.cells #[dlV x] 32)) = .ok (.slice Ad' (ds ++ [x]).length cd') w' ∧ TpH w g ct A ce xs Ad' cd' (ds ++ [x]) st c w' := by
  obtain ⟨Ad', cd', w2, hrun, hOR, hbel, hgr, h5⟩ := app_row (P := Tryz.prog) Tryz.underlying29 deedInfo rfl wr w.heap.size ty Ad cd _ h.row [dlV x] (by simp [dlV, Value.oneCell']) (by rw [List.length_map]; simp only [List.length_singleton]; omega) (by decide) h.be.size
  rw [show ds.map dlV ++ [dlV x] = (ds ++ [x]).map dlV by simp] at hrun hOR h5
  rw [List.length_map, List.length_map] at hrun
  rw [ownBlock_slice] at hgr
  have hal := (Below.refl wr.heap.size wr).alloc (Nat.le_refl _) (.cells #[dlV x] 32)
  have f2 : Fr (fun q => blk Ad = some q) wr w2 := (Fr.of_below hal).comp (Fr.of_grown hgr fun q hq => hq)
  have td : ∀ q, blk Ad = some q → Ty wr q 32 := fun q hq => own_ty h.row (bo _ _ hq)
  have of2 : ∀ {t : TypeId}, t ≠ 32 → Off (fun q => blk Ad = some q) wr t := fun hn q hq _ => ⟨_, td q hq, hn⟩
  have hcf : ∀ q, c.F q → ¬ blk Ad = some q := fun q hq e => by
    obtain ⟨u, hu, e2⟩ := h.ok.ty hq
    have e3 := hu.inj (td q e)
    subst e3
    rcases e2 with e2 | e2 | e2 | e2 | e2 | e2 | e2 <;> exact absurd e2 (by decide)
  refine ⟨Ad', cd', w2, hrun, h.ok.fr f2 hcf (of2 (by decide)) (of2 (by decide)) (of2 (by decide)) (of2 (by decide)), h.gg, h.ct, h.st, h.ew.fr_ f2 (fun q hq e => ?_) (of2 (by decide)) (of2 (by decide)) (of2 (by decide)), h.ap, hOR, hbel _ _ (Nat.le_refl _) h.be⟩
  exact absurd ((td q e).inj (own_ty h.ew.row (bo _ _ hq))) (by decide)
theorem TpH.ds_ (h : TpH w g ct A ce xs Ad cd (dsX xs) st c wr) : DS wr Ad (dsX xs) :=
  ⟨h.row.vs, fun d hd => by
    obtain ⟨e, he, rfl⟩ := dsX_mem hd
    exact (h.ew.eo e he).ops.os⟩
end
end Go.Proofs.YtefdipjhjgmokaaGreat

set_option linter.unusedVariables false
set_option linter.unusedSimpArgs false
namespace Go.Proofs.YtefdipjhjgmokaaGreat
open Go.RowKit

set_option maxHeartbeats 400000 in
set_option maxRecDepth 100000 in
theorem tbegun_any (w : World) : Calls Tryz.prog 4 #[] w fun e w' => e = .returned (.bool true) ∧ Below w.heap.size w w' := by
  have hok : Ok [((⟨#[97]⟩ : ByteArray), (1 : Int))] := chk_ok.1 (by decide +kernel)
  have HL := hideP (fun l' (h1 : Ok l') (h2 : valOf l' = upd (valOf []) ⟨#[97]⟩ 1) => show l'.length = 1 from by
    rw [h1.ext hok fun k => by
      rw [h2]
      by_cases e : k = ⟨#[97]⟩
      · subst e; rw [upd_same, valOf_mem (p := ((⟨#[97]⟩ : ByteArray), (1 : Int))) hok.srt (by simp)]
      · rw [upd_other _ _ e, valOf_none (by simp), valOf_none (fun p hp h => e (by simp at hp; subst hp; exact h.symm))]]
    rfl)
  clear hok
  have HP := hideP (put_st none 0 [] ⟨#[97]⟩ 1 w (SV.nil w) Ok.nil (by decide +kernel) (by decide))
  go_enter Tryz.func4, Tryz.ntmps4
  go_wp2_with fail
  refine HP.out.mono ?_
  rintro e w1 ⟨A, c, l', rfl, _, hok, hv, hb, _⟩
  rw [HL.out l' hok hv]
  clear HP HL hv
  go_wp2_with fail
  go_ret
  exact ⟨rfl, hb⟩
end Go.Proofs.YtefdipjhjgmokaaGreat

set_option linter.unusedVariables false
set_option linter.unusedSimpArgs false
namespace Go.Proofs.YtefdipjhjgmokaaGreat
open Go.RowKit Go.Sort

theorem by8_enc (l : List ByteArray) : (l.map by8).map encStr = l.map Value.string := Lib.map_encStr l
theorem enc_back (zs : List (List UInt8)) : (zs.map fun s => (⟨s.toArray⟩ : ByteArray)).map Value.string = zs.map encStr := by simp [encStr]
theorem grown_putRow {w : World} {g q : Nat} (d : Array (List UInt8)) : w.grownBy (putRow encStr (Sort.ahead w q) g 0 d) (some g) := by
  refine ⟨rfl, rfl, rfl, by simp [putRow, mapBlock, Sort.ahead], fun k hk hne => ?_⟩
  have : g ≠ k := fun e => hne (by rw [e])
  simp [putRow, mapBlock, Sort.ahead, Array.getElem?_modify, this]
theorem grownBy.trans_ {a b c : World} {row : Option Nat} (h : a.grownBy b row) (k : b.grownBy c row) : a.grownBy c row :=
  ⟨k.os.trans h.os, k.tape.trans h.tape, k.output.trans h.output, Nat.le_trans h.size k.size, fun i hi hne => (k.block i (Nat.lt_of_lt_of_le hi h.size) hne).trans (h.block i hi hne)⟩
theorem grownBy.rfl_ (a : World) (row : Option Nat) : a.grownBy a row := ⟨rfl, rfl, rfl, Nat.le_refl _, fun _ _ _ => rfl⟩

set_option maxHeartbeats 400000 in
set_option maxRecDepth 100000 in
theorem sorted_any (B : Nat) (A : Option Addr) (c : Nat) (l : List ByteArray) (w : World) (hO : OR w B 9 A c (l.map Value.string)) (hl : l.length ≤ 1000) :
    Calls Tryz.prog 107 #[.slice A l.length c] w fun e w' => e = .returned (.slice A (keysOf l).length c) ∧ OR w' B 9 A c ((keysOf l).map Value.string) ∧ w.grownBy w' (blk A) := by
  rcases Nat.eq_zero_or_pos l.length with h0 | h0
  · obtain rfl := List.length_eq_zero_iff.1 h0
    have e0 : keysOf [] = [] := by
      have := keysOf_len []
      exact List.length_eq_zero_iff.1 (by simpa using this)
    have HE := hideP e0
    clear e0
    go_enter Tryz.func107, Tryz.ntmps107
    go_wp2_with fail
    refine (Any.slices_Sort_string_none Tryz.sortS A c _).mono ?_
    rintro e w1 ⟨rfl, rfl⟩
    go_wp2_with fail
    refine (Any.slices_Compact_string_empty Tryz.compS A c _).mono ?_
    rintro e w1 ⟨rfl, rfl⟩
    go_wp2_with fail
    go_ret
    exact ⟨by rw [HE.out]; rfl, by rw [HE.out]; exact hO, grownBy.rfl_ _ _⟩
  · have hown : w.ownsRow B 9 1 (.slice A l.length c) l.length ((l.map by8).map encStr) := by
      rw [by8_enc]; have := hO; unfold OR at this; rw [List.length_map] at this; exact this
    obtain ⟨g, cap, hv, hBg, hlt, hn, hm, hz, hH⟩ := Lib.holds_of_ownsRow hown (by intro e; injection e with _ e _; omega)
    injection hv with e1 _ e3
    subst e1; subst e3
    have hl8 : (l.map by8).length = l.length := by simp
    obtain ⟨ts, hts⟩ : ∃ ts, ts = (l.map by8).mergeSort fun x y => decide (x ≤ y) := ⟨_, rfl⟩
    have htl : ts.length = l.length := by rw [hts]; simp
    have hsort := Any.slices_Sort_string Tryz.sortS g 0 c (l.map by8) w hH hlt (by omega)
    rw [← hts, hl8] at hsort
    have hkey : ∀ nn os, (grow (putRow encStr (Sort.ahead w nn) g 0 ts.toArray) os).ownsRow B 9 1 (.slice (some ⟨g, 0, none⟩) l.length c) l.length (ts.map encStr) := by
      intro nn os
      rcases hown.2 with ⟨hv, _⟩ | ⟨g', cap', cur, hv, hbase, hb, h1, h2, h3, h4⟩
      · cases hv
      · injection hv with e1 _ e3
        injection e1 with e1
        injection e1 with e1 _ _
        subst e1; subst e3
        have := ownsRow_sorted (n := nn) (os := os) (ss := l.map by8) (ts := ts) (by omega) hbase hb (by omega) h2 h3
        rw [hl8] at this
        exact this
    have HT := hideP hts
    have HK := hideP hkey
    have hne : l.length ≠ 0 := by omega
    clear hts hkey hown hO hH
    go_enter Tryz.func107, Tryz.ntmps107
    go_wp2_with fail
    refine hsort.mono ?_
    rintro e w2 ⟨rfl, nn, os, hw2⟩
    have hown2 := HK.out nn os
    rw [← hw2] at hown2
    have hg2 : w.grownBy w2 (some g) := by rw [hw2]; exact grownBy_sorted _
    clear hw2
    obtain ⟨g2, cap2, hv2, hBg2, hlt2, hn2, hm2, hz2, hH2⟩ := Lib.holds_of_ownsRow hown2 (by intro e; cases e)
    injection hv2 with e1 _ e3
    injection e1 with e1
    injection e1 with e1 _ _
    subst e1; subst e3
    have hcomp := Any.slices_Compact_string Tryz.compS g 0 c ts w2 hH2 (by omega) (by omega)
    rw [htl] at hcomp
    have hfin := hideP (fun q => Lib.ownsRow_putRow (q := q) (k := (Lib.compact ts).length) (ys := Lib.compact ts ++ List.replicate (l.length - (Lib.compact ts).length) []) hown2 (by have := Lib.compact_length_le ts; simp; omega) (by have := Lib.compact_length_le ts; omega))
    have hkl : keysOf l = (Lib.compact ts).map fun s => ⟨s.toArray⟩ := by rw [HT.out]; rfl
    have HL := hideP hkl
    clear hkl hown2 hH2
    go_wp2_with fail
    refine hcomp.mono ?_
    rintro e w3 ⟨rfl, q, hw3⟩
    have ho3 := hfin.out q
    rw [← hw3, List.take_left] at ho3
    have hg3 : w2.grownBy w3 (some g) := by rw [hw3]; exact grown_putRow _
    clear hw3
    go_wp2_with fail
    go_ret
    refine ⟨by rw [HL.out]; simp, ?_, grownBy.trans_ hg2 hg3⟩
    unfold OR
    rw [HL.out, enc_back, List.length_map]
    exact ho3
end Go.Proofs.YtefdipjhjgmokaaGreat

set_option linter.unusedVariables false
set_option linter.unusedSimpArgs false
namespace Go.Proofs.YtefdipjhjgmokaaGreat
open Go.RowKit Go.Sort

set_option maxHeartbeats 1000000 in
set_option maxRecDepth 100000 in
theorem union_any (A1 A2 : Option Addr) (c1 c2 : Nat) (l1 l2 : List ByteArray) (w : World) (p1 : VS w A1 (l1.map Value.string)) (p2 : VS w A2 (l2.map Value.string)) (hl' : l1.length + l2.length ≤ 1000) :
    Calls Tryz.prog 81 #[.slice A1 l1.length c1, .slice A2 l2.length c2] w fun e w' => ∃ A c, e = .returned (.slice A (keysOf (l1 ++ l2)).length c) ∧ OR w' w.heap.size 9 A c ((keysOf (l1 ++ l2)).map Value.string) ∧ Below w.heap.size w w' := by
  go_enter Tryz.func81, Tryz.ntmps81
  go_wp2_with fail
  refine (sconcat2 w w.heap.size rfl A1 A2 _ _ c1 c2 l1 l2 rfl rfl p1 p2 (by omega)).mono ?_
  rintro e w1 ⟨A, c, rfl, hO, hbw⟩
  have hl : (l1 ++ l2).length ≤ 1000 := by simpa using hl'
  clear p1 p2 hl'
  generalize hll : l1 ++ l2 = l at hO hl ⊢
  have HLL := hideP hll
  clear hll
  rcases Nat.eq_zero_or_pos l.length with h0 | h0
  · obtain rfl := List.length_eq_zero_iff.1 h0
    have e0 : keysOf [] = [] := by
      have := keysOf_len []
      exact List.length_eq_zero_iff.1 (by simpa using this)
    have HE := hideP e0
    clear e0
    go_wp2_with fail
    refine (Any.slices_Sort_string_none Tryz.sortS A c _).mono ?_
    rintro e wz ⟨rfl, rfl⟩
    go_wp2_with fail
    refine (Any.slices_Compact_string_empty Tryz.compS A c _).mono ?_
    rintro e wz ⟨rfl, rfl⟩
    go_wp2_with fail
    go_ret
    exact ⟨A, c, by rw [HLL.out, HE.out]; rfl, by rw [HLL.out, HE.out]; exact hO, hbw⟩
  · have hown : w1.ownsRow w.heap.size 9 1 (.slice A l.length c) l.length ((l.map by8).map encStr) := by
      rw [by8_enc]; have := hO; unfold OR at this; rw [List.length_map] at this; exact this
    obtain ⟨g, cap, hv, hBg, hlt, hn, hm, hz, hH⟩ := Lib.holds_of_ownsRow hown (by intro e; injection e with _ e _; omega)
    injection hv with e1 _ e3
    subst e1; subst e3
    have hl8 : (l.map by8).length = l.length := by simp
    obtain ⟨ts, hts⟩ : ∃ ts, ts = (l.map by8).mergeSort fun x y => decide (x ≤ y) := ⟨_, rfl⟩
    have htl : ts.length = l.length := by rw [hts]; simp
    have hsort := Any.slices_Sort_string Tryz.sortS g 0 c (l.map by8) w1 hH hlt (by omega)
    rw [← hts, hl8] at hsort
    have hkey : ∀ nn os, (grow (putRow encStr (Sort.ahead w1 nn) g 0 ts.toArray) os).ownsRow w.heap.size 9 1 (.slice (some ⟨g, 0, none⟩) l.length c) l.length (ts.map encStr) := by
      intro nn os
      rcases hown.2 with ⟨hv, _⟩ | ⟨g', cap', cur, hv, hbase, hb, h1, h2, h3, h4⟩
      · cases hv
      · injection hv with e1 _ e3
        injection e1 with e1
        injection e1 with e1 _ _
        subst e1; subst e3
        have := ownsRow_sorted (n := nn) (os := os) (ss := l.map by8) (ts := ts) (by omega) hbase hb (by omega) h2 h3
        rw [hl8] at this
        exact this
    have HT := hideP hts
    have HK := hideP hkey
    have hne : l.length ≠ 0 := by omega
    clear hts hkey hown hO hH
    go_wp2_with fail
    refine hsort.mono ?_
    rintro e w2 ⟨rfl, nn, os, hw2⟩
    have hown2 := HK.out nn os
    rw [← hw2] at hown2
    have hg2 : w1.grownBy w2 (some g) := by rw [hw2]; exact grownBy_sorted _
    clear hw2
    obtain ⟨g2, cap2, hv2, hBg2, hlt2, hn2, hm2, hz2, hH2⟩ := Lib.holds_of_ownsRow hown2 (by intro e; cases e)
    injection hv2 with e1 _ e3
    injection e1 with e1
    injection e1 with e1 _ _
    subst e1; subst e3
    have hcomp := Any.slices_Compact_string Tryz.compS g 0 c ts w2 hH2 (by omega) (by omega)
    rw [htl] at hcomp
    have hfin := hideP (fun q => Lib.ownsRow_putRow (q := q) (k := (Lib.compact ts).length) (ys := Lib.compact ts ++ List.replicate (l.length - (Lib.compact ts).length) []) hown2 (by have := Lib.compact_length_le ts; simp; omega) (by have := Lib.compact_length_le ts; omega))
    have hkl : keysOf l = (Lib.compact ts).map fun s => ⟨s.toArray⟩ := by rw [HT.out]; rfl
    have HL := hideP hkl
    clear hkl hown2 hH2
    go_wp2_with fail
    refine hcomp.mono ?_
    rintro e w3 ⟨rfl, q, hw3⟩
    have ho3 := hfin.out q
    rw [← hw3, List.take_left] at ho3
    have hg3 : w2.grownBy w3 (some g) := by rw [hw3]; exact grown_putRow _
    clear hw3
    go_wp2_with fail
    go_ret
    refine ⟨some ⟨g, 0, none⟩, c, by rw [HLL.out, HL.out]; simp, ?_, hbw.grown (grownBy.trans_ hg2 hg3) hbw.size (fun k hk => by injection hk with hk; subst hk; exact hBg)⟩
    unfold OR
    rw [HLL.out, HL.out, enc_back, List.length_map]
    exact ho3
end Go.Proofs.YtefdipjhjgmokaaGreat
