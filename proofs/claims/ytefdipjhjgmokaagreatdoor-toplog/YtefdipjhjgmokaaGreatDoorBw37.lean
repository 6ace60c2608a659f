/-
  A line one byte of which is another one cannot be read, plainly (no program in it).
  text.Deed: what it writes.
  text.Map: what it writes.
-/
import Derived.Test.YtefdipjhjgmokaaGreatDoorBw34
import Derived.Test.YtefdipjhjgmokaaGreatDoorBw36
import Derived.Test.YtefdipjhjgmokaaGreatDoorBw6
import Derived.Test.YtefdipjhjgmokaaGreatDoorBw5
import Derived.Test.YtefdipjhjgmokaaGreatDoorBw2
set_option linter.unusedVariables false
set_option linter.unusedSimpArgs false
namespace Go.Proofs.YtefdipjhjgmokaaGreatDoor
open Go.Lib

theorem join_le {c : UInt8} {k : Nat} : ∀ {xs : List (List UInt8)}, (∀ x ∈ xs, x.length ≤ k) → (join xs [c]).length ≤ xs.length * (k + 1)
  | [], _ => by simp [join_nil]
  | [x], h => by rw [join_one]; have := h x (by simp); simp; omega
  | x :: y :: r, h => by
    rw [join_two]
    have h1 := h x (by simp)
    have h2 := join_le (c := c) (xs := y :: r) (fun z hz => h z (List.mem_cons_of_mem _ hz))
    simp only [List.length_append, List.length_cons, Nat.add_mul] at h2 ⊢
    omega
theorem key_len {s : ByteArray} (h : keyB s = true) : s.data.toList.length ≤ 6 := by
  simp [keyB] at h
  have : s.data.toList.length = s.size := by simp
  omega
theorem val_len {n : Int} (h : valB n = true) : (itoa n).length ≤ 11 := by
  simp [valB] at h
  exact itoa_short (by omega) (by omega)
theorem opT_len {o : Opr} (h : chkO o = 0) : (opT o).length ≤ 25 := by
  obtain ⟨g1, g2, g3, g4, g5, g6⟩ := chkO_zero.1 h
  have k1 := key_len g3
  unfold opT
  split
  · next e => have := val_len (g5 (by omega)); simp only [List.length_append, List.length_cons]; omega
  · split
    · next e => have := val_len (g5 (by omega)); simp only [List.length_append, List.length_cons]; omega
    · split
      · next e => have := key_len (g4 (.inl e)).1; simp only [List.length_append, List.length_cons]; omega
      · split
        · next e => have := val_len (g5 (by omega)); simp only [List.length_append, List.length_cons]; omega
        · next e1 e2 e3 e4 =>
          have h1 := val_len (g5 (by omega))
          have h2 := key_len (g4 (.inr (by omega))).1
          simp only [List.length_append, List.length_cons]; omega
theorem own_len {n : Int} (h0 : 0 ≤ n) (h1 : n ≤ 3) : (itoa n).length = 1 := by
  obtain rfl | rfl | rfl | rfl : n = 0 ∨ n = 1 ∨ n = 2 ∨ n = 3 := by omega
  all_goals
    unfold itoa
    rw [if_neg (by decide), decDigits_length, nDigits_small (by decide)]
theorem wdT_len : ∀ (cs : List ByteArray) (os : List Int), (∀ k ∈ cs, keyB k = true) → (∀ n ∈ os, 0 ≤ n ∧ n ≤ 3) → (wdT cs os).length ≤ 2 * cs.length ∧ ∀ x ∈ wdT cs os, x.length ≤ 6
  | [], os, _, _ => by simp [wdT]
  | _ :: _, [], _, _ => by simp [wdT]
  | k :: cs, o :: os, hk, ho => by
    obtain ⟨h1, h2⟩ := wdT_len cs os (fun j hj => hk j (List.mem_cons_of_mem _ hj)) (fun n hn => ho n (List.mem_cons_of_mem _ hn))
    rw [wdT]
    refine ⟨by simp only [List.length_cons]; omega, ?_⟩
    intro x hx
    rcases List.mem_cons.1 hx with rfl | hx
    · exact key_len (hk k (by simp))
    rcases List.mem_cons.1 hx with rfl | hx
    · have := ho o (by simp); rw [own_len this.1 this.2]; omega
    · exact h2 x hx
theorem body_len {x : Ent} (h : chkE x = 0) : (bodyT x).length ≤ 256 := by
  obtain ⟨m, d, cs, os⟩ := x
  cases m
  · have h' := chkD_zero.1 (show chkD d = 0 from h)
    show (tD d).length ≤ 256
    have h1 : (tD d).length ≤ (d.map opT).length * 26 := join_le fun x hx => by
      obtain ⟨o, ho, rfl⟩ := List.mem_map.1 hx
      exact opT_len (h'.2.2 o ho)
    rw [List.length_map] at h1
    have := h'.2.1
    omega
  · have h' := chkM_ok.1 (show chkM cs os = 0 from h)
    show (mapW ++ tM cs os).length ≤ 256
    obtain ⟨o, r, rfl, hl⟩ := okM_one h'
    obtain ⟨h1, h2⟩ := wdT_len cs r (okM_keys h') (fun n hn => h'.own n (List.mem_cons_of_mem _ hn))
    have h3 : (tM cs (o :: r)).length ≤ (wdM cs (o :: r)).length * 7 := join_le fun x hx => by
      rw [wdM] at hx
      rcases List.mem_cons.1 hx with rfl | hx
      · have := h'.own o (by simp); rw [own_len this.1 this.2]; omega
      · exact h2 x hx
    rw [wdM, List.length_cons] at h3
    have := h'.few
    simp only [List.length_append, mapW, List.length_cons, List.length_nil]
    omega
/-- a line without its newline -/
def lineT (x : Ent) : List UInt8 := bodyT x ++ 32 :: itoa (sm (bodyT x))
theorem entT_line (x : Ent) : entT x = lineT x ++ [10] := by simp [entT, lnT, lineT]
theorem line_at (x : Ent) : (lineT x)[(bodyT x).length]? = some 32 := by simp [lineT]
theorem line_lt (x : Ent) : (bodyT x).length < (lineT x).length := by simp [lineT]
theorem line_take (x : Ent) : (lineT x).take (bodyT x).length = bodyT x := by simp [lineT]
theorem line_drop (x : Ent) : (lineT x).drop ((bodyT x).length + 1) = itoa (sm (bodyT x)) := by simp [lineT, List.drop_append]
theorem sp_of {x : Ent} (h : chkE x = 0) {j : Nat} (hj : (lineT x)[j]? = some 32) : j = (bodyT x).length ∨ j = 3 ∧ 3 < (bodyT x).length ∧ (bodyT x).take 3 = [109, 97, 112] := by
  rcases Nat.lt_trichotomy j (bodyT x).length with hlt | heq | hgt
  · rw [lineT, List.getElem?_append_left hlt] at hj
    obtain ⟨rfl, r, hr⟩ := body_sp h hj
    exact .inr ⟨rfl, hlt, by rw [hr]; rfl⟩
  · exact .inl heq
  · rw [lineT, List.getElem?_append_right (by omega)] at hj
    obtain ⟨m, hm⟩ : ∃ m, j - (bodyT x).length = m + 1 := ⟨j - (bodyT x).length - 1, by omega⟩
    rw [hm, List.getElem?_cons_succ] at hj
    exact absurd (List.mem_of_getElem? hj) (num_not (by decide) (by decide))
theorem line_eq {x y : Ent} (h : bodyT x = bodyT y) : lineT x = lineT y := by unfold lineT; rw [h]
theorem changed {x : Ent} (h : chkE x = 0) {i : Nat} {v : UInt8} (hi : i < (entT x).length) (hv : (entT x)[i]? ≠ some v) : (rdE ((entT x).set i v)).1 ≠ 0 := by
  intro hz
  obtain ⟨y, n, hr⟩ : ∃ y n, rdE ((entT x).set i v) = (0, y, n) := ⟨_, _, by rw [← hz]⟩
  obtain ⟨more, hX, hy, _, _⟩ := ent_rdE hr
  clear hr hz
  have lx := line_not h
  have ly := line_not hy
  change (10 : UInt8) ∉ lineT x at lx
  change (10 : UInt8) ∉ lineT y at ly
  rw [entT_line, entT_line] at hX
  rw [entT_line] at hv hi
  have hlen : (lineT x).length + 1 = (lineT y).length + 1 + more.length := by
    have := congrArg List.length hX
    simp at this
    omega
  simp only [List.length_append, List.length_cons, List.length_nil] at hi
  -- the place of Y's newline
  have y10 : (lineT y ++ [10] ++ more)[(lineT y).length]? = some 10 := by simp
  rw [← hX] at y10
  by_cases hiY : i = (lineT y).length
  · subst hiY
    have hlt : (lineT y).length < (lineT x).length := by
      rcases Nat.lt_or_ge (lineT y).length (lineT x).length with hlt | hge
      · exact hlt
      · have e : (lineT y).length = (lineT x).length := by omega
        rw [e] at y10 hv
        rw [List.getElem?_set_self (by simp)] at y10
        injection y10 with y10
        subst y10
        exact absurd (by simp) hv
    have hpre : lineT y = (lineT x).take (lineT y).length := by
      have h1 := congrArg (List.take (lineT y).length) hX
      rw [List.take_set_of_le (Nat.le_refl _), List.take_append_of_le_length (by omega)] at h1
      rw [h1]; simp
    have hq := line_at y
    have hql := line_lt y
    rw [hpre, List.getElem?_take_of_lt hql] at hq
    rcases sp_of h hq with e | ⟨e, e1, e2⟩
    · have hb : bodyT y = bodyT x := by
        rw [← line_take y, hpre, List.take_take, Nat.min_eq_left (by omega), e, line_take]
      have := congrArg List.length (line_eq hb)
      omega
    · refine map_no hy ?_
      rw [← line_take y, hpre, List.take_take, Nat.min_eq_left (by omega), e, ← e2, ← line_take x, List.take_take, Nat.min_eq_left (by omega)]
  · rw [List.getElem?_set_ne hiY] at y10
    have hLe : (lineT y).length = (lineT x).length := by
      rcases Nat.lt_or_ge (lineT y).length (lineT x).length with hlt | hge
      · rw [List.getElem?_append_left hlt] at y10
        exact absurd (List.mem_of_getElem? y10) lx
      · omega
    have hm : more = [] := List.length_eq_zero_iff.1 (by omega)
    subst hm
    rw [List.append_nil] at hX
    have hil : i < (lineT x).length := by
      rcases Nat.lt_or_ge i (lineT x).length with hlt | hge
      · exact hlt
      · exact absurd (show i = (lineT y).length by omega) hiY
    rw [List.set_append_left _ _ hil] at hX
    have hL : (lineT x).set i v = lineT y := List.append_cancel_right hX
    rw [List.getElem?_append_left hil] at hv
    clear hX y10 hiY hlen hi
    have hp := line_at x
    have hpl := line_lt x
    have hq := line_at y
    have hql := line_lt y
    have hiv : (lineT y)[i]? = some v := by rw [← hL, List.getElem?_set_self hil]
    have hne : ∀ j, j ≠ i → (lineT y)[j]? = (lineT x)[j]? := fun j hj => by rw [← hL, List.getElem?_set_ne (fun e => hj e.symm)]
    by_cases hpq : (bodyT y).length = (bodyT x).length
    · rcases Nat.lt_trichotomy i (bodyT x).length with hlt | heq | hgt
      · have hb : bodyT y = (bodyT x).set i v := by
          rw [← line_take y, hpq, ← hL, List.take_set, line_take]
        have hN : itoa (sm (bodyT y)) = itoa (sm (bodyT x)) := by
          rw [← line_drop y, hpq, ← hL, List.drop_set_of_lt (by omega), line_drop]
        have b1 := sm_lt (bodyT x)
        have b2 := sm_lt (bodyT y)
        have e := itoa_inj (by omega) (by omega) (by omega) (by omega) hN
        have e' : sm (bodyT y) = sm (bodyT x) := by omega
        rw [hb] at e'
        refine sm_set hlt (body_len h) ?_ e'
        intro e3
        apply hv
        rw [lineT, List.getElem?_append_left hlt, List.getElem?_eq_getElem hlt, e3]
      · subst heq
        rw [hpq] at hq
        rw [hq] at hiv
        injection hiv with hiv
        subst hiv
        exact hv hp
      · have hb : bodyT y = bodyT x := by
          rw [← line_take y, hpq, ← hL, List.take_set_of_le (by omega), line_take]
        rw [line_eq hb] at hiv
        exact hv hiv
    · by_cases hiq : i = (bodyT y).length
      · have hip : (bodyT x).length ≠ i := fun e => hpq (by omega)
        rw [← hne _ hip] at hp
        rcases sp_of hy hp with e | ⟨e, e1, e2⟩
        · exact hpq e.symm
        · refine map_no h ?_
          rw [← line_take x, e, ← e2, ← line_take y, ← hL, List.take_take, List.take_set_of_le (by omega), Nat.min_eq_left (by omega)]
      · rw [hne _ (fun e => hiq e.symm)] at hq
        rcases sp_of h hq with e | ⟨e, e1, e2⟩
        · exact hpq e
        · have hip : i = (bodyT x).length := by
            refine Classical.byContradiction fun hip => ?_
            rw [← hne _ (fun e => hip e.symm)] at hp
            rcases sp_of hy hp with e3 | ⟨e3, e4, _⟩
            · exact hpq e3.symm
            · omega
          refine map_no hy ?_
          rw [← line_take y, e, ← hL, List.take_set_of_le (by omega), ← e2, ← line_take x, List.take_take, Nat.min_eq_left (by omega)]
end Go.Proofs.YtefdipjhjgmokaaGreatDoor

set_option linter.unusedVariables false
set_option linter.unusedSimpArgs false
namespace Go.Proofs.YtefdipjhjgmokaaGreatDoor
open Go.RowKit
open Go.Lib hiding intOf

/-- what Deed answers -/
def ddA (d : List Opr) : ByteArray := if chkD d = 0 then bs (tD d) else ByteArray.empty
def wdD (d : List Opr) (k : Nat) : List ByteArray := (d.take k).map fun o => bs (opT o)
theorem wdD_step {d : List Opr} {k : Nat} (h : k < d.length) : wdD d (k + 1) = wdD d k ++ [bs (opT d[k])] := by
  unfold wdD; rw [List.take_succ_eq_append_getElem h, List.map_append]; rfl
theorem wdD_end (d : List Opr) : (wdD d d.length).map (·.data.toList) = d.map opT := by
  unfold wdD; rw [List.take_of_length_le (Nat.le_refl _), List.map_map]; rfl
theorem wdD_len {d : List Opr} {k : Nat} (h : k ≤ d.length) : (wdD d k).length = k := by unfold wdD; simp; omega
/-- while the words are gathered -/
def DtI (w2 : World) (d : List Opr) (s i : Value) (wr : World) : Prop :=
  ∃ (k : Nat) (A : Option Addr) (c : Nat), k ≤ d.length ∧ i = .int .i64 k ∧ s = .slice A (wdD d k).length c ∧ OR wr w2.heap.size 9 A c ((wdD d k).map Value.string) ∧ Below w2.heap.size w2 wr
set_option maxHeartbeats 2000000 in
set_option maxRecDepth 100000 in
theorem deedT_any (D : Option Addr) (cd : Nat) (d : List Opr) (w : World) (hD : OS w w.heap.size D d) (hN : ∀ o ∈ d, -9223372036854775808 ≤ o.n ∧ o.n ≤ 9223372036854775807) (hg : Gl w) :
    Calls Tryz.prog 66 #[.agg #[.slice D d.length cd]] w fun e w' => e = .returned (.tuple #[.string (ddA d), .int .i64 (chkD d)]) ∧ Below w.heap.size w w' := by
  have b0 := (Below.refl w.heap.size w).alloc (Nat.le_refl _) (.cells #[.slice D d.length cd] 40)
  have x0 := Box.new w 40 #[.slice D d.length cd]
  have hD1 := hD.go b0
  have hg1 := hg.below b0
  have HQ := hideP (dcheck_any D cd d _ hD1)
  have c0 := x0.cell 0 (v := .slice D d.length cd) rfl
  go_enter Tryz.func66, Tryz.ntmps66
  go_wp2_with fail
  refine HQ.out.mono ?_
  clear HQ hD hg
  generalize w.alloc (.cells #[.slice D d.length cd] 40) = w1 at b0 x0 hD1 hg1 c0 ⊢
  rintro e w2 ⟨rfl, hb2⟩
  have b2 := b0.trans (hb2.mono b0.size)
  by_cases hc : chkD d = 0
  · have HV := hideP (show ddA d = bs (tD d) by unfold ddA; rw [if_pos hc])
    obtain ⟨hd1, hd8, hdo⟩ := chkD_zero.1 hc
    rw [hc]
    have HC := hideP hc
    clear hc
    have x2 := x0.below hb2
    have hD2 := hD1.go hb2
    have hg2 := hg1.below hb2
    have d0 := x2.cell 0 (v := .slice D d.length cd) rfl
    have HB2 := hideP b2
    clear b0 x0 hD1 hg1 c0 hb2 b2
    generalize hgx : w.heap.size = gx at x2 d0 ⊢
    have HGX := hideP hgx
    clear hgx
    go_wp2_with fail
    go_loopw [5, 16] (DtI w2 d) (fun _ i _ => d.length - (intOf i).toNat)
    case atStart => exact ⟨0, none, 0, Nat.zero_le _, rfl, rfl, OR.nil _ _ _, Below.refl _ _⟩
    case round =>
      obtain ⟨k, P, cp, hk, rfl, rfl, hor, hb⟩ := hrel
      by_cases hkl : k < d.length
      · have hchk := hdo _ (List.getElem_mem hkl)
        obtain ⟨b, o, rfl, hbl, q1, q2, q3, q4⟩ := (hD2.below hb) k _ (List.getElem?_eq_getElem hkl)
        have hst := wdD_step hkl
        have hwl := wdD_len hk
        have hnn := hN _ (List.getElem_mem hkl)
        generalize d[k] = p at hchk q1 q2 q3 q4 hst hnn
        have hba := hb.alloc hb.size (.cells #[.int .i64 p.kind, .string p.key, .string p.src, .int .i64 p.n] 71)
        have hora := hor.below ((Below.refl _ wr).alloc (Nat.le_refl _) (.cells #[.int .i64 p.kind, .string p.key, .string p.src, .int .i64 p.n] 71))
        have hga := hg2.below hba
        have g1 : (k : Int) < (d.length : Int) := by omega
        have g2 : (0 : Int) ≤ (k : Int) := by omega
        have HT := hideP (opText_any p _ hga hchk hnn.1 hnn.2)
        unfold opV at HT
        have HST := hideP hst
        have HWL := hideP hwl
        obtain ⟨kd, key, src, n⟩ := p
        simp only at q1 q2 q3 q4 hba hora HT HST
        clear hst hwl hor hchk d0 x2 hga hnn
        go_wp2_with fail
        refine HT.out.mono ?_
        clear HT
        generalize wr.alloc (.cells #[.int .i64 kd, .string key, .string src, .int .i64 n] 71) = w4 at hba hora ⊢
        rintro e w5 ⟨rfl, hb5⟩
        have hor5 := hora.below hb5
        have hbw := hba.trans (hb5.mono hba.size)
        generalize bs (opT ⟨kd, key, src, n⟩) = tx at HST ⊢
        obtain ⟨A', c', w6, hrun, hor6, hbl6, _, _⟩ := app_row (P := Tryz.prog) Tryz.underlying32 strInfo rfl w5 w2.heap.size 32 P cp _ hor5 [.string tx] (by simp [Value.oneCell']) (by rw [List.length_map, HWL.out]; simp only [List.length_cons, List.length_nil]; omega) (by decide) hbw.size
        have hX : (wdD d k).map Value.string ++ [.string tx] = (wdD d (k + 1)).map Value.string := by rw [HST.out]; simp
        rw [hX] at hrun hor6
        rw [List.length_map, List.length_map] at hrun
        have hb6 := hbl6 w2.heap.size w2 (Nat.le_refl _) hbw
        have HR := hideP hrun
        clear hrun hbl6 hor5 hX hb5 hbw hora hba
        go_wp2_with (at_builtin; first | refine Lib.wpList_append_run _ rfl _ _ _ _ rfl _ _ rfl rfl _ _ HR.out ?_)
        go_roundw
        case rel => exact ⟨k + 1, A', c', by omega, by go_num, rfl, hor6, hb6⟩
        case measure => simp [intOf]; omega
      · have hke : k = d.length := by omega
        subst hke
        have hwl := wdD_len (d := d) (Nat.le_refl d.length)
        have hT : (tD d).length ≤ 256 := body_len (x := ⟨false, d, [], []⟩) HC.out
        have HJ := hideP (join_any P cp (wdD d d.length) ⟨#[59]⟩ wr hor.vs (by omega) (by omega) (by have := hor.caps.1; rwa [List.length_map] at this) (by rw [wdD_end]; show (tD d).length ≤ _; omega))
        have HE := hideP (wdD_end d)
        clear hwl hT
        go_wp2_with fail
        refine HJ.out.mono ?_
        rintro e w5 ⟨rfl, hb5⟩
        rw [HE.out]
        have hb6 := HB2.out.trans ((hb.trans (hb5.mono hb.size)).mono HB2.out.size)
        go_wp2_with fail
        go_ret2
        exact ⟨by rw [HV.out, HC.out]; rfl, hb6⟩
  · have HV := hideP (show ddA d = ByteArray.empty by unfold ddA; rw [if_neg hc])
    have d1 : (chkD d != 0) = true := by simpa using hc
    clear hc
    generalize hq : chkD d = q at d1 ⊢
    have HQ := hideP hq
    clear hq
    go_wp2_with fail
    go_ret2
    exact ⟨by rw [HV.out, HQ.out]; rfl, b2⟩
end Go.Proofs.YtefdipjhjgmokaaGreatDoor

set_option linter.unusedVariables false
set_option linter.unusedSimpArgs false
namespace Go.Proofs.YtefdipjhjgmokaaGreatDoor
open Go.RowKit
open Go.Lib hiding intOf

theorem wdT_snoc : ∀ (cs : List ByteArray) (os : List Int) (c : ByteArray) (o : Int), cs.length = os.length → wdT (cs ++ [c]) (os ++ [o]) = wdT cs os ++ [c.data.toList, itoa o]
  | [], [], c, o, _ => rfl
  | [], _ :: _, _, _, h => by simp at h
  | _ :: _, [], _, _, h => by simp at h
  | d :: cs, p :: os, c, o, h => by
    show d.data.toList :: itoa p :: wdT (cs ++ [c]) (os ++ [o]) = _
    rw [wdT_snoc cs os c o (by simpa using h)]; rfl
/-- the words so far -/
def wsB (cs : List ByteArray) (os : List Int) (k : Nat) : List ByteArray := (wdM (cs.take k) (os.take (k + 1))).map bs
theorem wsB_step {cs : List ByteArray} {os : List Int} {k : Nat} (h : os.length = cs.length + 1) (hk : k < cs.length) (hk2 : k + 1 < os.length) : wsB cs os (k + 1) = wsB cs os k ++ [cs[k], bs (itoa os[k + 1])] := by
  unfold wsB
  cases os with
  | nil => simp at h
  | cons o r =>
    have hl : cs.length = r.length := by simp at h; omega
    rw [List.take_succ_cons, List.take_succ_cons, wdM, wdM, List.take_succ_eq_append_getElem hk, List.take_succ_eq_append_getElem (show k < r.length by omega), wdT_snoc _ _ _ _ (by simp; omega)]
    simp [bs_of, bs_data]
theorem wsB_zero {cs : List ByteArray} {os : List Int} (h : 0 < os.length) : wsB cs os 0 = [bs (itoa os[0])] := by
  cases os with
  | nil => simp at h
  | cons o r => rfl
theorem wsB_end {cs : List ByteArray} {os : List Int} (h : os.length = cs.length + 1) : (wsB cs os cs.length).map (·.data.toList) = wdM cs os := by
  unfold wsB
  rw [List.take_of_length_le (Nat.le_refl _), List.take_of_length_le (by omega), List.map_map]
  exact List.map_id' _
theorem wsB_len {cs : List ByteArray} {os : List Int} {k : Nat} (h : os.length = cs.length + 1) (hk : k ≤ cs.length) : (wsB cs os k).length = 2 * k + 1 := by
  induction k with
  | zero => rw [wsB_zero (by omega)]; rfl
  | succ k ih => rw [wsB_step h (by omega) (by omega), List.length_append, ih (by omega)]; simp; omega
theorem OR.of_box1 {w : World} {g B : Nat} {t : TypeId} {cs : Array Value} (h : Box w g t cs) (hB : B ≤ g) (hl : cs.size ≤ maxLen) : OR w B t (some ⟨g, 0, none⟩) cs.size cs.toList := by
  unfold OR
  rw [Array.length_toList]
  exact ⟨by simp, .inr ⟨g, cs.size, cs, rfl, hB, h, Nat.le_refl _, hl, by simp, by rw [Nat.mul_one]; exact List.take_of_length_le (by simp)⟩⟩
/-- what Map answers -/
def mpA (cs : List ByteArray) (os : List Int) : ByteArray := if chkM cs os = 0 then bs (tM cs os) else ByteArray.empty
/-- while the words are gathered -/
def MtI (w2 : World) (cs : List ByteArray) (os : List Int) (s i : Value) (wr : World) : Prop :=
  ∃ (k : Nat) (A : Option Addr) (c : Nat), k ≤ cs.length ∧ i = .int .i64 k ∧ s = .slice A (wsB cs os k).length c ∧ OR wr w2.heap.size 9 A c ((wsB cs os k).map Value.string) ∧ Below w2.heap.size w2 wr
set_option maxHeartbeats 2000000 in
set_option maxRecDepth 100000 in
theorem mapT_any (m : Mp) (w : World) (hm : MS w m) (hg : Gl w) :
    Calls Tryz.prog 67 #[.agg #[.slice m.A m.cs.length m.ca, .slice m.O m.os.length m.co]] w fun e w' => e = .returned (.tuple #[.string (mpA m.cs m.os), .int .i64 (chkM m.cs m.os)]) ∧ Below w.heap.size w w' := by
  have b0 := (Below.refl w.heap.size w).alloc (Nat.le_refl _) (.cells #[.slice m.A m.cs.length m.ca, .slice m.O m.os.length m.co] 34)
  have x0 := Box.new w 34 #[.slice m.A m.cs.length m.ca, .slice m.O m.os.length m.co]
  have hm1 := hm.below b0
  have hg1 := hg.below b0
  have ho := hm.lo
  have hmo := hm.mo
  unfold maxLen at hmo
  have HQ := hideP (shcheck_any m (w.alloc (.cells #[.slice m.A m.cs.length m.ca, .slice m.O m.os.length m.co] 34)) hm1 (by omega))
  obtain ⟨A, ca, cs, O, co, os⟩ := m
  simp only at hm1 b0 x0 HQ ⊢
  have c0 := x0.cell 0 (v := .slice A cs.length ca) rfl
  have c1 := x0.cell 1 (v := .slice O os.length co) rfl
  go_enter Tryz.func67, Tryz.ntmps67
  go_wp2_with fail
  refine HQ.out.mono ?_
  clear HQ hm hg
  generalize w.alloc (.cells #[.slice A cs.length ca, .slice O os.length co] 34) = w1 at b0 x0 hm1 hg1 c0 c1 ⊢
  rintro e w2 ⟨rfl, hb2⟩
  have b2 := b0.trans (hb2.mono b0.size)
  by_cases hc : chkM cs os = 0
  · have HV := hideP (show mpA cs os = bs (tM cs os) by unfold mpA; rw [if_pos hc])
    have HO := hideP (chkM_ok.1 hc)
    rw [hc]
    have HC := hideP hc
    clear hc
    have x2 := x0.below hb2
    have hm2 := hm1.below hb2
    have hg2 := hg1.below hb2
    have d0 := x2.cell 0 (v := .slice A cs.length ca) rfl
    have d1 := x2.cell 1 (v := .slice O os.length co) rfl
    have hlen := HO.out.len
    have hfew := HO.out.few
    have hown := HO.out.own
    obtain ⟨b, o, e, hbl, q0⟩ := hm2.own 0 (os[0]'(by omega)) (show os[0]? = _ from List.getElem?_eq_getElem (by omega))
    simp only at e
    subst e
    have hz := hown os[0] (List.getElem_mem _)
    have HW0 := hideP (wsB_zero (cs := cs) (show 0 < os.length by omega))
    generalize os[0] = z at q0 hz HW0
    have g0 : (0 : Int) < (os.length : Int) := by omega
    rw [Nat.add_zero] at q0
    clear b0 x0 hm1 hg1 c0 c1 hb2
    have HI := hideP (itoa_any z (by omega) (by omega) w2 hg2)
    go_wp2_with fail
    refine HI.out.mono ?_
    rintro e w3 ⟨rfl, hb3⟩
    have b3 := b2.trans (hb3.mono b2.size)
    have x3 := x2.below hb3
    have hm3 := hm2.below hb3
    have hg3 := hg2.below hb3
    have e0 := x3.cell 0 (v := .slice (A) cs.length ca) rfl
    have hlt3 := x3.lt
    have al := (Below.refl w3.heap.size w3).alloc (Nat.le_refl _) (.cells #[.string (bs (itoa z))] 9)
    have xs := Box.new w3 9 #[.string (bs (itoa z))]
    have HI0 := hideP (show MtI w3 cs os (.slice (some ⟨w3.heap.size, 0, none⟩) 1 1) (.int .i64 0) (w3.alloc (.cells #[.string (bs (itoa z))] 9)) from
      ⟨0, some ⟨w3.heap.size, 0, none⟩, 1, Nat.zero_le _, rfl, by rw [HW0.out]; rfl, by rw [HW0.out]; exact OR.of_box1 xs (Nat.le_refl _) (by simp [maxLen]), al⟩)
    clear d0 d1 hm2 hg2 x2 q0 HI xs hbl
    generalize bs (itoa z) = tz at HI0 al ⊢
    have e1 := (al.cell (p := ⟨w.heap.size, 0, none⟩) hlt3).trans e0
    go_wp2_with fail
    generalize w3.alloc (.cells #[.string tz] 9) = w4 at HI0 al e1 ⊢
    generalize hgg : w.heap.size = gx at hlt3 x3 e1 e0 ⊢
    have HB3 := hideP b3
    have HGG := hideP hgg
    clear b2 b3 hgg e0 hb3
    go_loopw [5, 22] (MtI w3 cs os) (fun _ i _ => cs.length - (intOf i).toNat)
    case atStart => exact HI0.out
    case round =>
      obtain ⟨k, P, cp, hk, rfl, rfl, hor, hb⟩ := hrel
      by_cases hkl : k < cs.length
      · have g1 : (k : Int) < (cs.length : Int) := by omega
        have g2 : (0 : Int) ≤ (k : Int) := by omega
        have g3 : (0 : Int) ≤ (k : Int) + 1 := by omega
        have g4 : (k : Int) + 1 < (os.length : Int) := by omega
        have pk : IntKind.i64.wrap ((k : Int) + 1) = (k : Int) + 1 := by simp only [IntKind.wrap_i64]; omega
        obtain ⟨b1, o1, ea, hbl1, q1⟩ := (hm3.below hb).cuts k (.string cs[k]) (by simp [hkl])
        obtain ⟨b2, o2, eo, hbl2, q2⟩ := (hm3.below hb).own (k + 1) (os[k + 1]'(by omega)) (show os[k + 1]? = _ from List.getElem?_eq_getElem (by omega))
        simp only at ea eo
        subst ea
        injection eo with eo
        injection eo with eb eo _
        subst eb
        subst eo
        have hz2 := hown os[k + 1] (List.getElem_mem _)
        have hst := wsB_step hlen hkl (show k + 1 < os.length by omega)
        have hwl := wsB_len hlen hk
        generalize cs[k] = ck at q1 hst
        generalize os[k + 1] = ok at q2 hz2 hst
        have xk := x3.below hb
        have f1 := xk.cell 1 (v := .slice (some ⟨b, o, none⟩) os.length co) rfl
        have HI2 := hideP (itoa_any ok (by omega) (by omega) wr (hg3.below hb))
        have tn : ((k : Int) + 1).toNat = k + 1 := by omega
        have q2' : wr.cell? ⟨b, o + ((k : Int) + 1).toNat, none⟩ = some (.int .i64 ok) := by rw [tn]; exact q2
        have HST := hideP hst
        have HWL := hideP hwl
        clear hst hwl xk
        go_wp2_with fail
        refine HI2.out.mono ?_
        rintro e w5 ⟨rfl, hb5⟩
        have hor5 := hor.below hb5
        have hbw := hb.trans (hb5.mono hb.size)
        obtain ⟨A', c', w6, hrun, hor6, hbl6, _, _⟩ := app_row (P := Tryz.prog) Tryz.underlying32 strInfo rfl w5 w3.heap.size 32 P cp _ hor5 [.string ck, .string (bs (itoa ok))] (by simp [Value.oneCell']) (by rw [List.length_map, HWL.out]; simp only [List.length_cons, List.length_nil]; omega) (by decide) hbw.size
        have hX : (wsB cs os k).map Value.string ++ [.string ck, .string (bs (itoa ok))] = (wsB cs os (k + 1)).map Value.string := by rw [HST.out]; simp
        rw [hX] at hrun hor6
        rw [List.length_map, List.length_map] at hrun
        have hb6 := hbl6 w3.heap.size w3 (Nat.le_refl _) hbw
        have HR := hideP hrun
        clear hrun hbl6 hor5 hor hX hb5 hbw
        generalize bs (itoa ok) = tk at HR ⊢
        go_wp2_with (at_builtin; first | refine Lib.wpList_append_run _ rfl _ _ _ _ rfl _ _ rfl rfl _ _ HR.out ?_)
        go_roundw
        case rel => exact ⟨k + 1, A', c', by omega, by go_num, rfl, hor6, hb6⟩
        case measure => simp [intOf]; omega
      · have hke : k = cs.length := by omega
        subst hke
        have hwl := wsB_len hlen (Nat.le_refl cs.length)
        have hT : (tM cs os).length ≤ 252 := by
          have := body_len (x := ⟨true, [], cs, os⟩) HC.out
          simp only [bodyT, if_true, List.length_append] at this
          have h4 : mapW.length = 4 := rfl
          omega
        have HJ := hideP (join_any P cp (wsB cs os cs.length) ⟨#[58]⟩ wr hor.vs (by omega) (by omega) (by have := hor.caps.1; rwa [List.length_map] at this) (by rw [wsB_end hlen]; show (tM cs os).length ≤ _; omega))
        have HE := hideP (wsB_end hlen)
        clear hwl hT
        go_wp2_with fail
        refine HJ.out.mono ?_
        rintro e w5 ⟨rfl, hb5⟩
        rw [HE.out]
        have hb6 := HB3.out.trans ((hb.trans (hb5.mono hb.size)).mono HB3.out.size)
        go_wp2_with fail
        go_ret2
        exact ⟨by rw [HV.out, HC.out]; rfl, hb6⟩
  · have HV := hideP (show mpA cs os = ByteArray.empty by unfold mpA; rw [if_neg hc])
    have d1 : (chkM cs os != 0) = true := by simpa using hc
    clear hc
    generalize hq : chkM cs os = q at d1 ⊢
    have HQ := hideP hq
    clear hq
    go_wp2_with fail
    go_ret2
    exact ⟨by rw [HV.out, HQ.out]; rfl, b2⟩
end Go.Proofs.YtefdipjhjgmokaaGreatDoor
