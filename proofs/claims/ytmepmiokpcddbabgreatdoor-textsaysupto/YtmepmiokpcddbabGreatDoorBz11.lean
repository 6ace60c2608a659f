/-
  A line one byte of which is another one cannot be read, plainly (no program in it).
  store.Key and store.Value: what they answer.
-/
import Derived.Test.YtmepmiokpcddbabGreatDoorBz10
import Derived.Test.YtmepmiokpcddbabGreatDoorProg
import Derived.Test.YtmepmiokpcddbabGreatDoorBz2
import Derived.WalkKit
import Derived.WalkSpells
import Derived.WalkLawsBesides
set_option linter.unusedVariables false
set_option linter.unusedSimpArgs false
namespace Go.Proofs.YtmepmiokpcddbabGreatDoor
open Go.Lib

theorem join_le {c : UInt8} {k : Nat} : ∀ {xs : List (List UInt8)}, (∀ x ∈ xs, x.length ≤ k) → (join xs [c]).length ≤ xs.length * (k + 1)
  | [], _ => by simp [join_nil]
  | [x], h => by rw [join_one]; have := h x (by simp); simp; omega
  | x :: y :: r, h => by
    rw [join_two]
    have h1 := h x (by simp)
    have h2 := join_le (c := c) (xs := y :: r) (fun z hz => h z (List.mem_cons_of_mem _ hz))
    simp only [List.length_append, List.length_cons, Nat.add_mul] at h2 ⊢
    omega
theorem key_len {s : ByteArray} (h : keyB s = true) : s.data.toList.length ≤ 6 := by
  simp [keyB] at h
  have : s.data.toList.length = s.size := by simp
  omega
theorem val_len {n : Int} (h : valB n = true) : (itoa n).length ≤ 11 := by
  simp [valB] at h
  exact itoa_short (by omega) (by omega)
theorem opT_len {o : Opr} (h : chkO o = 0) : (opT o).length ≤ 25 := by
  obtain ⟨g1, g2, g3, g4, g5, g6⟩ := chkO_zero.1 h
  have k1 := key_len g3
  unfold opT
  split
  · next e => have := val_len (g5 (by omega)); simp only [List.length_append, List.length_cons]; omega
  · split
    · next e => have := val_len (g5 (by omega)); simp only [List.length_append, List.length_cons]; omega
    · split
      · next e => have := key_len (g4 (.inl e)).1; simp only [List.length_append, List.length_cons]; omega
      · split
        · next e => have := val_len (g5 (by omega)); simp only [List.length_append, List.length_cons]; omega
        · next e1 e2 e3 e4 =>
          have h1 := val_len (g5 (by omega))
          have h2 := key_len (g4 (.inr (by omega))).1
          simp only [List.length_append, List.length_cons]; omega
theorem own_len {n : Int} (h0 : 0 ≤ n) (h1 : n ≤ 3) : (itoa n).length = 1 := by
  obtain rfl | rfl | rfl | rfl : n = 0 ∨ n = 1 ∨ n = 2 ∨ n = 3 := by omega
  all_goals
    unfold itoa
    rw [if_neg (by decide), decDigits_length, nDigits_small (by decide)]
theorem wdT_len : ∀ (cs : List ByteArray) (os : List Int), (∀ k ∈ cs, keyB k = true) → (∀ n ∈ os, 0 ≤ n ∧ n ≤ 3) → (wdT cs os).length ≤ 2 * cs.length ∧ ∀ x ∈ wdT cs os, x.length ≤ 6
  | [], os, _, _ => by simp [wdT]
  | _ :: _, [], _, _ => by simp [wdT]
  | k :: cs, o :: os, hk, ho => by
    obtain ⟨h1, h2⟩ := wdT_len cs os (fun j hj => hk j (List.mem_cons_of_mem _ hj)) (fun n hn => ho n (List.mem_cons_of_mem _ hn))
    rw [wdT]
    refine ⟨by simp only [List.length_cons]; omega, ?_⟩
    intro x hx
    rcases List.mem_cons.1 hx with rfl | hx
    · exact key_len (hk k (by simp))
    rcases List.mem_cons.1 hx with rfl | hx
    · have := ho o (by simp); rw [own_len this.1 this.2]; omega
    · exact h2 x hx
theorem body_len {x : Ent} (h : chkE x = 0) : (bodyT x).length ≤ 256 := by
  obtain ⟨m, d, cs, os⟩ := x
  cases m
  · have h' := chkD_zero.1 (show chkD d = 0 from h)
    show (tD d).length ≤ 256
    have h1 : (tD d).length ≤ (d.map opT).length * 26 := join_le fun x hx => by
      obtain ⟨o, ho, rfl⟩ := List.mem_map.1 hx
      exact opT_len (h'.2.2 o ho)
    rw [List.length_map] at h1
    have := h'.2.1
    omega
  · have h' := chkM_ok.1 (show chkM cs os = 0 from h)
    show (mapW ++ tM cs os).length ≤ 256
    obtain ⟨o, r, rfl, hl⟩ := okM_one h'
    obtain ⟨h1, h2⟩ := wdT_len cs r (okM_keys h') (fun n hn => h'.own n (List.mem_cons_of_mem _ hn))
    have h3 : (tM cs (o :: r)).length ≤ (wdM cs (o :: r)).length * 7 := join_le fun x hx => by
      rw [wdM] at hx
      rcases List.mem_cons.1 hx with rfl | hx
      · have := h'.own o (by simp); rw [own_len this.1 this.2]; omega
      · exact h2 x hx
    rw [wdM, List.length_cons] at h3
    have := h'.few
    simp only [List.length_append, mapW, List.length_cons, List.length_nil]
    omega
/-- a line without its newline -/
def lineT (x : Ent) : List UInt8 := bodyT x ++ 32 :: itoa (sm (bodyT x))
theorem entT_line (x : Ent) : entT x = lineT x ++ [10] := by simp [entT, lnT, lineT]
theorem line_at (x : Ent) : (lineT x)[(bodyT x).length]? = some 32 := by simp [lineT]
theorem line_lt (x : Ent) : (bodyT x).length < (lineT x).length := by simp [lineT]
theorem line_take (x : Ent) : (lineT x).take (bodyT x).length = bodyT x := by simp [lineT]
theorem line_drop (x : Ent) : (lineT x).drop ((bodyT x).length + 1) = itoa (sm (bodyT x)) := by simp [lineT, List.drop_append]
theorem sp_of {x : Ent} (h : chkE x = 0) {j : Nat} (hj : (lineT x)[j]? = some 32) : j = (bodyT x).length ∨ j = 3 ∧ 3 < (bodyT x).length ∧ (bodyT x).take 3 = [109, 97, 112] := by
  rcases Nat.lt_trichotomy j (bodyT x).length with hlt | heq | hgt
  · rw [lineT, List.getElem?_append_left hlt] at hj
    obtain ⟨rfl, r, hr⟩ := body_sp h hj
    exact .inr ⟨rfl, hlt, by rw [hr]; rfl⟩
  · exact .inl heq
  · rw [lineT, List.getElem?_append_right (by omega)] at hj
    obtain ⟨m, hm⟩ : ∃ m, j - (bodyT x).length = m + 1 := ⟨j - (bodyT x).length - 1, by omega⟩
    rw [hm, List.getElem?_cons_succ] at hj
    exact absurd (List.mem_of_getElem? hj) (num_not (by decide) (by decide))
theorem line_eq {x y : Ent} (h : bodyT x = bodyT y) : lineT x = lineT y := by unfold lineT; rw [h]
theorem changed {x : Ent} (h : chkE x = 0) {i : Nat} {v : UInt8} (hi : i < (entT x).length) (hv : (entT x)[i]? ≠ some v) : (rdE ((entT x).set i v)).1 ≠ 0 := by
  intro hz
  obtain ⟨y, n, hr⟩ : ∃ y n, rdE ((entT x).set i v) = (0, y, n) := ⟨_, _, by rw [← hz]⟩
  obtain ⟨more, hX, hy, _, _⟩ := ent_rdE hr
  clear hr hz
  have lx := line_not h
  have ly := line_not hy
  change (10 : UInt8) ∉ lineT x at lx
  change (10 : UInt8) ∉ lineT y at ly
  rw [entT_line, entT_line] at hX
  rw [entT_line] at hv hi
  have hlen : (lineT x).length + 1 = (lineT y).length + 1 + more.length := by
    have := congrArg List.length hX
    simp at this
    omega
  simp only [List.length_append, List.length_cons, List.length_nil] at hi
  -- the place of Y's newline
  have y10 : (lineT y ++ [10] ++ more)[(lineT y).length]? = some 10 := by simp
  rw [← hX] at y10
  by_cases hiY : i = (lineT y).length
  · subst hiY
    have hlt : (lineT y).length < (lineT x).length := by
      rcases Nat.lt_or_ge (lineT y).length (lineT x).length with hlt | hge
      · exact hlt
      · have e : (lineT y).length = (lineT x).length := by omega
        rw [e] at y10 hv
        rw [List.getElem?_set_self (by simp)] at y10
        injection y10 with y10
        subst y10
        exact absurd (by simp) hv
    have hpre : lineT y = (lineT x).take (lineT y).length := by
      have h1 := congrArg (List.take (lineT y).length) hX
      rw [List.take_set_of_le (Nat.le_refl _), List.take_append_of_le_length (by omega)] at h1
      rw [h1]; simp
    have hq := line_at y
    have hql := line_lt y
    rw [hpre, List.getElem?_take_of_lt hql] at hq
    rcases sp_of h hq with e | ⟨e, e1, e2⟩
    · have hb : bodyT y = bodyT x := by
        rw [← line_take y, hpre, List.take_take, Nat.min_eq_left (by omega), e, line_take]
      have := congrArg List.length (line_eq hb)
      omega
    · refine map_no hy ?_
      rw [← line_take y, hpre, List.take_take, Nat.min_eq_left (by omega), e, ← e2, ← line_take x, List.take_take, Nat.min_eq_left (by omega)]
  · rw [List.getElem?_set_ne hiY] at y10
    have hLe : (lineT y).length = (lineT x).length := by
      rcases Nat.lt_or_ge (lineT y).length (lineT x).length with hlt | hge
      · rw [List.getElem?_append_left hlt] at y10
        exact absurd (List.mem_of_getElem? y10) lx
      · omega
    have hm : more = [] := List.length_eq_zero_iff.1 (by omega)
    subst hm
    rw [List.append_nil] at hX
    have hil : i < (lineT x).length := by
      rcases Nat.lt_or_ge i (lineT x).length with hlt | hge
      · exact hlt
      · exact absurd (show i = (lineT y).length by omega) hiY
    rw [List.set_append_left _ _ hil] at hX
    have hL : (lineT x).set i v = lineT y := List.append_cancel_right hX
    rw [List.getElem?_append_left hil] at hv
    clear hX y10 hiY hlen hi
    have hp := line_at x
    have hpl := line_lt x
    have hq := line_at y
    have hql := line_lt y
    have hiv : (lineT y)[i]? = some v := by rw [← hL, List.getElem?_set_self hil]
    have hne : ∀ j, j ≠ i → (lineT y)[j]? = (lineT x)[j]? := fun j hj => by rw [← hL, List.getElem?_set_ne (fun e => hj e.symm)]
    by_cases hpq : (bodyT y).length = (bodyT x).length
    · rcases Nat.lt_trichotomy i (bodyT x).length with hlt | heq | hgt
      · have hb : bodyT y = (bodyT x).set i v := by
          rw [← line_take y, hpq, ← hL, List.take_set, line_take]
        have hN : itoa (sm (bodyT y)) = itoa (sm (bodyT x)) := by
          rw [← line_drop y, hpq, ← hL, List.drop_set_of_lt (by omega), line_drop]
        have b1 := sm_lt (bodyT x)
        have b2 := sm_lt (bodyT y)
        have e := itoa_inj (by omega) (by omega) (by omega) (by omega) hN
        have e' : sm (bodyT y) = sm (bodyT x) := by omega
        rw [hb] at e'
        refine sm_set hlt (body_len h) ?_ e'
        intro e3
        apply hv
        rw [lineT, List.getElem?_append_left hlt, List.getElem?_eq_getElem hlt, e3]
      · subst heq
        rw [hpq] at hq
        rw [hq] at hiv
        injection hiv with hiv
        subst hiv
        exact hv hp
      · have hb : bodyT y = bodyT x := by
          rw [← line_take y, hpq, ← hL, List.take_set_of_le (by omega), line_take]
        rw [line_eq hb] at hiv
        exact hv hiv
    · by_cases hiq : i = (bodyT y).length
      · have hip : (bodyT x).length ≠ i := fun e => hpq (by omega)
        rw [← hne _ hip] at hp
        rcases sp_of hy hp with e | ⟨e, e1, e2⟩
        · exact hpq e.symm
        · refine map_no h ?_
          rw [← line_take x, e, ← e2, ← line_take y, ← hL, List.take_take, List.take_set_of_le (by omega), Nat.min_eq_left (by omega)]
      · rw [hne _ (fun e => hiq e.symm)] at hq
        rcases sp_of h hq with e | ⟨e, e1, e2⟩
        · exact hpq e
        · have hip : i = (bodyT x).length := by
            refine Classical.byContradiction fun hip => ?_
            rw [← hne _ (fun e => hip e.symm)] at hp
            rcases sp_of hy hp with e3 | ⟨e3, e4, _⟩
            · exact hpq e3.symm
            · omega
          refine map_no hy ?_
          rw [← line_take y, e, ← hL, List.take_set_of_le (by omega), ← e2, ← line_take x, List.take_take, Nat.min_eq_left (by omega)]
end Go.Proofs.YtmepmiokpcddbabGreatDoor

set_option linter.unusedVariables false
set_option linter.unusedSimpArgs false
namespace Go.Proofs.YtmepmiokpcddbabGreatDoor
open Go.RowKit

set_option maxHeartbeats 400000 in
theorem value_any (n : Int) (w : World) :
    Calls Tryz.prog 135 #[.int .i64 n] w fun e w' => e = .returned (.bool (valB n)) ∧ w = w' := by
  by_cases h1 : -1000000000 ≤ n <;> by_cases h2 : n ≤ 1000000000
  all_goals
    go_enter Tryz.func135, Tryz.ntmps135
    go_wp2
    go_ret
    exact ⟨ret_bool (by simp [valB, h1, h2]), rfl⟩

set_option maxHeartbeats 400000 in
theorem key_any (s : ByteArray) (w : World) :
    Calls Tryz.prog 88 #[.string s] w fun e w' => e = .returned (.bool (keyB s)) ∧ w = w' := by
  by_cases h1 : 1 ≤ s.size
  · by_cases h2 : s.size ≤ 6
    · have d1 : decide ((s.size : Int) < 1) = false := by simp; omega
      have d2 : decide ((6 : Int) < (s.size : Int)) = false := by simp; omega
      go_enter Tryz.func88, Tryz.ntmps88
      go_wp2
      go_loop [14] (fun i => ∃ k : Nat, k ≤ s.size ∧ i = .int .i64 k ∧ (s.data.toList.take k).all lowB = true) (fun i => s.size - (intOf i).toNat)
      case atStart => exact ⟨0, Nat.zero_le _, rfl, rfl⟩
      case round =>
        obtain ⟨k, hk, rfl, hall⟩ := hrel
        have HA := hideP hall
        clear hall
        by_cases hlt : k < s.size
        · have hts := hideP (take_snoc s k hlt)
          by_cases ha : 97 ≤ (s[k].toNat : Int)
          · by_cases hz : (s[k].toNat : Int) ≤ 122
            · go_wp2
              go_round
              case rel => exact ⟨k + 1, by omega, by go_num, by rw [hts.out, List.all_append, HA.out]; simp [lowB, ha, hz]⟩
              case measure => simp [intOf]; omega
            · have hno := hideP (keyB_no (s := s) (x := s[k]) (Array.getElem_mem_toList _) (by simp [lowB, hz]))
              go_wp2
              go_ret
              exact ⟨ret_bool hno.out.symm, rfl⟩
          · have hno := hideP (keyB_no (s := s) (x := s[k]) (Array.getElem_mem_toList _) (by simp [lowB, ha]))
            go_wp2
            go_ret
            exact ⟨ret_bool hno.out.symm, rfl⟩
        · go_wp2
          go_ret
          exact ⟨ret_bool (by have := HA.out; rw [List.take_of_length_le (by simp; omega)] at this; simp [keyB, h1, h2, this]), rfl⟩
    · go_enter Tryz.func88, Tryz.ntmps88
      go_wp2
      go_ret
      exact ⟨ret_bool (by simp [keyB, h2]), rfl⟩
  · go_enter Tryz.func88, Tryz.ntmps88
    go_wp2
    go_ret
    exact ⟨ret_bool (by simp [keyB, h1]), rfl⟩
end Go.Proofs.YtmepmiokpcddbabGreatDoor
