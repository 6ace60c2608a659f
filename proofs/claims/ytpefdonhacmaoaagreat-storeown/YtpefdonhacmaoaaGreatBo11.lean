/-
  Slices of one-cell values in memory: what they read as, rows of the call's own, append (no body of the program in it).
  Transactions in memory: a slice of them, their first error (no body of the program in it).
  deed.Serial.
-/
import Derived.Test.YtpefdonhacmaoaaGreatBo1
import Derived.Test.YtpefdonhacmaoaaGreatProg
import Derived.Maps.AppendAt
import Derived.Deep.AppendLies
import Derived.Lib.AppendZerosOnto
import Derived.OwnWalk
import Derived.Test.YtpefdonhacmaoaaGreatBo8
import Derived.Test.YtpefdonhacmaoaaGreatBo10
set_option linter.unusedVariables false
set_option linter.unusedSimpArgs false
namespace Go.Proofs.YtpefdonhacmaoaaGreat
open Go.RowKit

/-- a slice reads as a list of values -/
def VS (w : World) (A : Option Addr) (vs : List Value) : Prop := ∀ i v, vs[i]? = some v → ∃ b o, A = some ⟨b, o, none⟩ ∧ b < w.heap.size ∧ w.cell? ⟨b, o + i, none⟩ = some v
theorem VS.below {w w' : World} {A : Option Addr} {vs : List Value} (h : VS w A vs) (hb : Below w.heap.size w w') : VS w' A vs := fun i p hp => by
  obtain ⟨b, o, e, hlt, h1⟩ := h i p hp
  exact ⟨b, o, e, Nat.lt_of_lt_of_le hlt hb.size, (hb.cell hlt).trans h1⟩
theorem VS.nil {w : World} {A : Option Addr} : VS w A [] := fun i p hp => by simp at hp
theorem VS.take_ {w : World} {A : Option Addr} {vs : List Value} (h : VS w A vs) (q : Nat) : VS w A (vs.take q) := fun i p hp => by
  rw [List.getElem?_take] at hp
  split at hp
  · exact h i p hp
  · cases hp
theorem VS.drop_ {w : World} {b o : Nat} {vs : List Value} (h : VS w (some ⟨b, o, none⟩) vs) (q : Nat) : VS w (some ⟨b, o + q, none⟩) (vs.drop q) := fun i p hp => by
  rw [List.getElem?_drop] at hp
  obtain ⟨b', o', e, hlt, h1⟩ := h _ p hp
  injection e with e
  injection e with e1 e2 _
  subst e1; subst e2
  rw [← Nat.add_assoc] at h1
  exact ⟨_, _, rfl, hlt, h1⟩
/-- a slice that the call itself has made: its row lies from block B on -/
def OR (w : World) (B : Nat) (t : TypeId) (A : Option Addr) (c : Nat) (xs : List Value) : Prop := w.ownsRow B t 1 (.slice A xs.length c) xs.length xs
section
variable {w w' : World} {B B' : Nat} {t : TypeId} {A : Option Addr} {c : Nat} {xs : List Value}
theorem OR.mono (h : OR w B t A c xs) (hB : B' ≤ B) : OR w B' t A c xs :=
  ⟨h.1, h.2.imp id fun ⟨g, cap, cur, h1, h2, h3⟩ => ⟨g, cap, cur, h1, Nat.le_trans hB h2, h3⟩⟩
theorem OR.below (h : OR w B t A c xs) (hb : Below w.heap.size w w') : OR w' B t A c xs :=
  ⟨h.1, h.2.imp id fun ⟨g, cap, cur, h1, h2, h3, h4⟩ => ⟨g, cap, cur, h1, h2, (hb.block g (Array.getElem?_eq_some_iff.1 h3).1).trans h3, h4⟩⟩
theorem OR.vs (h : OR w B t A c xs) : VS w A xs := by
  rcases Nat.eq_zero_or_pos xs.length with h0 | h0
  · rw [List.length_eq_zero_iff.1 h0]; exact VS.nil
  · obtain ⟨g, cap, hv, _, hlt⟩ := World.ownsRow.form h h0
    injection hv with a b d
    subst a; subst d
    refine fun i p hp => ⟨g, 0, rfl, hlt, ?_⟩
    have := h.cells (g := g) rfl _ _ hp
    rw [Addr.add_lit] at this
    exact this
theorem OR.of_own {n : Nat} {v : Value} (h : w.ownsRow B t 1 v n xs) : ∃ A c, v = .slice A xs.length c ∧ OR w B t A c xs := by
  have hn : n = xs.length := by have := h.1; omega
  subst hn
  rcases h.2 with ⟨rfl, h0⟩ | ⟨g, cap, cur, rfl, h2⟩
  · exact ⟨none, 0, by rw [h0], by unfold OR; rw [h0]; exact h0 ▸ h⟩
  · exact ⟨_, _, rfl, h⟩
theorem OR.nil (w : World) (B : Nat) (t : TypeId) : OR w B t none 0 [] := World.ownsRow_nil w _ _ _
theorem OR.caps (h : OR w B t A c xs) : xs.length ≤ c ∧ c ≤ maxLen ∧ (A = none → c = 0) ∧ (∀ a, A = some a → ∃ g, a = ⟨g, 0, none⟩ ∧ B ≤ g ∧ g < w.heap.size) := by
  rcases h.2 with ⟨hv, h0⟩ | ⟨g, cap, cur, hv, h2, h3, h4, h5, _⟩
  · injection hv with a b d
    subst a; subst d
    exact ⟨by omega, Nat.zero_le _, (fun _ => rfl), (fun a e => by cases e)⟩
  · injection hv with a b d
    subst a; subst d
    exact ⟨h4, h5, (fun e => by cases e), (fun a e => by injection e with e; exact ⟨g, e.symm, h2, (Array.getElem?_eq_some_iff.1 h3).1⟩)⟩
end
/-- append of new values onto a row of the call's own -/
theorem app_row {P : Program} {st t : TypeId} {z : Value} {bytes : Nat} (hS : P.underlying st = some (.slice t)) (hI : (P.info? t).map (fun i => (i.zero, i.size, i.bytes)) = some (some z, 1, bytes)) (hz : z.cells.size = 1)
    (w : World) (base : Nat) (ty : TypeId) (A : Option Addr) (c : Nat) (xs : List Value) (hown : OR w base t A c xs) (news : List Value) (h1 : ∀ u ∈ news, u.oneCell' = true)
    (h63 : (xs.length + news.length) * bytes ≤ 140737488355328) (hby : 1 ≤ bytes) (hbase : base ≤ w.heap.size) :
    ∃ A' c' w', (Builtin.append_ #[st, st] ty #[.slice A xs.length c, .slice (some ⟨w.heap.size, 0, none⟩) news.length news.length]).run P (w.alloc (.cells news.toArray t)) = .ok (.slice A' (xs ++ news).length c') w' ∧ OR w' base t A' c' (xs ++ news) ∧ (∀ B a, B ≤ base → Below B a w → Below B a w') ∧ (w.alloc (.cells news.toArray t)).grownBy w' (Value.slice A xs.length c).ownBlock ∧
      ((Value.slice A' (xs ++ news).length c').ownBlock = (Value.slice A xs.length c).ownBlock ∨ (Value.slice A' (xs ++ news).length c').ownBlock = some (w.heap.size + 1)) := by
  obtain ⟨i0, hi, hz0, hz1, hz2⟩ := info_parts hI
  have hle : xs.length + news.length ≤ 140737488355328 := Nat.le_trans (Nat.le_mul_of_pos_right _ hby) h63
  have hm : xs.length + news.length ≤ maxLen := by unfold maxLen; omega
  have hc : ∀ j u, news[j]? = some u → (w.alloc (.cells news.toArray t)).cell? ((⟨w.heap.size, 0, none⟩ : Addr).add j) = some u := by
    intro j u hu
    rw [Addr.add_lit]
    simp only [World.cell?]
    rw [heap_alloc_new]
    simp [hu]
  have hown' : (w.alloc (.cells news.toArray t)).ownsRow base t 1 (.slice A xs.length c) xs.length xs := World.ownsRow.alloc hown _
  obtain ⟨v', w', hrun, h2, h3, _, h5⟩ := run_append_own_at (P := P) (w.alloc (.cells news.toArray t)) base st ty t i0 _ 1 bytes hS hi hz0 hz1 hz2 hz (by decide) _ xs.length xs hown' ⟨w.heap.size, 0, none⟩ news.length news.length news (by simp) hc h1 hm h63 (by simp; omega)
  rw [← List.length_append] at h2
  obtain ⟨A', c', rfl, ho⟩ := OR.of_own h2
  refine ⟨A', c', w', hrun, ho, fun B a hB hb => ?_, h3, by simpa using h5⟩
  have hb' := hb.alloc (Nat.le_trans hB hbase) (.cells news.toArray t)
  exact hb'.grown h3 (by simp; omega) fun k hk => Nat.le_trans hB (World.ownsRow.lt hown' k hk).1
/-- rows that lie apart -/
theorem rows_apart {v v' : Value} {m : Nat} (h1 : ∀ k, v.ownBlock = some k → m ≤ k) (h2 : ∀ k, v'.ownBlock = some k → k < m) : v.ownBlock = none ∨ v.ownBlock ≠ v'.ownBlock := by
  cases h : v.ownBlock with
  | none => exact .inl rfl
  | some k => exact .inr fun e => by have := h1 k h; have := h2 k e.symm; omega
theorem boolInfo : (Tryz.prog.info? 4).map (fun i => (i.zero, i.size, i.bytes)) = some (some (.bool false), 1, 1) := by kernel_rfl
theorem strInfo : (Tryz.prog.info? 9).map (fun i => (i.zero, i.size, i.bytes)) = some (some (.string ByteArray.empty), 1, 16) := by kernel_rfl
end Go.Proofs.YtpefdonhacmaoaaGreat

set_option linter.unusedVariables false
set_option linter.unusedSimpArgs false
namespace Go.Proofs.YtpefdonhacmaoaaGreat
open Go.RowKit

/-- a transaction in memory: where its operations lie, their capacity, what they are -/
structure Dl where
  D : Option Addr
  c : Nat
  d : List Opr
def dlV (x : Dl) : Value := .slice x.D x.d.length x.c
/-- a slice of transactions -/
structure DS (w : World) (A : Option Addr) (ds : List Dl) : Prop where
  vs : VS w A (ds.map dlV)
  os : ∀ x ∈ ds, OS w w.heap.size x.D x.d
theorem DS.below {w w' : World} {A : Option Addr} {ds : List Dl} (h : DS w A ds) (hb : Below w.heap.size w w') : DS w' A ds := ⟨h.vs.below hb, fun x hx => (h.os x hx).go hb⟩
theorem DS.at_ {w : World} {A : Option Addr} {ds : List Dl} (h : DS w A ds) {k : Nat} (hk : k < ds.length) : (∃ b o, A = some ⟨b, o, none⟩ ∧ b < w.heap.size ∧ w.cell? ⟨b, o + k, none⟩ = some (dlV ds[k])) ∧ OS w w.heap.size (ds[k]).D (ds[k]).d :=
  ⟨h.vs k _ (by simp [hk]), h.os _ (List.getElem_mem hk)⟩
/-- the first error of a list of transactions -/
def chkDs : List (List Opr) → Int
  | [] => 0
  | d :: r => if chkD d = 0 then chkDs r else chkD d
theorem chkDs_next {l : List (List Opr)} {k : Nat} (h : k < l.length) : chkDs (l.drop k) = if chkD l[k] = 0 then chkDs (l.drop (k + 1)) else chkD l[k] := by
  rw [List.drop_eq_getElem_cons h]; rfl
theorem chkDs_zero {l : List (List Opr)} : chkDs l = 0 ↔ ∀ d ∈ l, chkD d = 0 := by
  induction l with
  | nil => simp [chkDs]
  | cons o r ih =>
    by_cases h : chkD o = 0
    · simp [chkDs, h, ih]
    · simp [chkDs, h]
end Go.Proofs.YtpefdonhacmaoaaGreat

set_option linter.unusedVariables false
set_option linter.unusedSimpArgs false
namespace Go.Proofs.YtpefdonhacmaoaaGreat
open Go.RowKit

/-- what Serial hands back -/
def RetSer (w : World) (r : VF × List Bool) (e : Ending) (w' : World) : Prop :=
  ∃ A c l A2 c2, e = .returned (.tuple #[.slice A (l : List Pr).length c, .slice A2 r.2.length c2, .int .i64 0]) ∧ OV w' w.heap.size A c l ∧ Ok l ∧ valOf l = r.1 ∧ OR w' w.heap.size 4 A2 c2 (r.2.map Value.bool) ∧ Below w.heap.size w w'
/-- while the transactions are executed -/
def SerInv (B : Nat) (w4 : World) (v : VF) (ds : List (List Opr)) (s x i : Value) (wr : World) : Prop :=
  ∃ (k : Nat) (A : Option Addr) (c : Nat) (l : List Pr) (A2 : Option Addr) (c2 : Nat), k ≤ ds.length ∧ i = .int .i64 k ∧ s = .slice A l.length c ∧ x = .slice A2 (serV v (ds.take k)).2.length c2 ∧ OV wr B A c l ∧ Ok l ∧ valOf l = (serV v (ds.take k)).1 ∧
    OR wr w4.heap.size 4 A2 c2 ((serV v (ds.take k)).2.map Value.bool) ∧ chkDs ds = chkDs (ds.drop k) ∧ Below w4.heap.size w4 wr

set_option maxHeartbeats 1000000 in
set_option maxRecDepth 100000 in
theorem serial_any (A D : Option Addr) (c cd : Nat) (l : List Pr) (ds : List Dl) (w : World) (hA : SV w A c l) (h : Ok l) (hD : DS w D ds) (hn : ds.length ≤ 60) :
    Calls Tryz.prog 27 #[.slice A l.length c, .slice D ds.length cd] w fun e w' =>
      (chkDs (ds.map (·.d)) = 0 ∧ RetSer w (serV (valOf l) (ds.map (·.d))) e w') ∨ (chkDs (ds.map (·.d)) ≠ 0 ∧ e = .returned (.tuple #[.slice none 0 0, .slice none 0 0, .int .i64 (chkDs (ds.map (·.d)))]) ∧ Below w.heap.size w w') := by
  have hll := h.small
  have HC := hideP (chk_ok.2 h)
  have g1 : ¬ (60 : Int) < (ds.length : Int) := by omega
  go_enter Tryz.func27, Tryz.ntmps27
  go_wp2_with fail
  refine (check_any A c l _ hA.ps (by omega)).mono ?_
  rintro e w1 ⟨rfl, hb1⟩
  rw [HC.out]
  have hA1 := hA.below hb1
  have hD1 := hD.below hb1
  clear hA hD
  go_wp2_with fail
  refine (concat1 _ _ rfl A _ c l rfl hA1.ps (by omega)).mono ?_
  rintro e w4 ⟨v4, rfl, hown, hb5⟩
  obtain ⟨A4, c4, rfl, hO⟩ := OV.of_own hown
  have hb6 := (Below.refl w1.heap.size w1).alloc (Nat.le_refl _) (.cells #[.slice A l.length c] 33)
  have hb7 := hb6.trans (hb5.mono hb6.size)
  have hD4 := hD1.below hb7
  have hb8 := hb1.trans (hb7.mono hb1.size)
  have hO4 : OV w4 w.heap.size A4 c4 l := hO.mono (Nat.le_trans hb1.size hb6.size)
  clear hA1 hD1 hb1 hb5 hb6 hb7 hO hown
  go_wp2_with fail
  go_loopw [8, 9, 28] (SerInv w.heap.size w4 (valOf l) (ds.map (·.d))) (fun _ _ i _ => ds.length - (intOf i).toNat)
  case atStart => exact ⟨0, A4, c4, l, none, 0, Nat.zero_le _, rfl, rfl, rfl, hO4, h, rfl, OR.nil _ _ _, rfl, Below.refl _ _⟩
  case round =>
    obtain ⟨k, Ak, ck, lk, A2, c2, hk, rfl, rfl, rfl, hOk, hok, hval, hor, hchk, hb⟩ := hrel
    have HV := hideP hval
    have HK := hideP hchk
    clear hval hchk hO4
    simp only [List.length_map] at hk
    by_cases hlt : k < ds.length
    · have hkm : k < (ds.map (·.d)).length := by simpa using hlt
      have hnext := chkDs_next hkm
      have htake := serV_take (v := valOf l) hkm
      obtain ⟨⟨b, o, rfl, hbl, q1⟩, hos⟩ := (hD4.below hb).at_ hlt
      rw [List.getElem_map] at hnext htake
      generalize ds[k] = x at hnext htake q1 hos
      have HN := hideP hnext
      have HT := hideP htake
      clear hnext htake hD4
      obtain ⟨Dx, cx, dx⟩ := x
      simp only [dlV] at q1
      simp only at hos
      have hsz := Nat.le_trans hb8.size hb.size
      have hlen := hideP (serV_len (valOf l) ((ds.map (·.d)).take k))
      have hab := (Below.refl wr.heap.size wr).alloc (Nat.le_refl _) (.cells #[.slice Dx dx.length cx] 39)
      have hb9 := hb.alloc hb.size (.cells #[.slice Dx dx.length cx] 39)
      have hO9 := hOk.below hab
      have hor9 := hor.below hab
      have hos9 := hos.go hab
      have hat : (wr.alloc (.cells #[.slice Dx dx.length cx] 39)).cell? ⟨wr.heap.size, 0, none⟩ = some (.slice Dx dx.length cx) := by simp
      go_wp2_with fail
      generalize wr.alloc (.cells #[.slice Dx dx.length cx] 39) = w5 at hb9 hO9 hor9 hos9 hat ⊢
      clear hab hOk hor hos
      by_cases h0 : chkD dx = 0
      · refine (run_ok Ak Dx ck cx lk dx _ hO9.sv hok hos9 h0).mono ?_
        rintro e w6 ⟨A6, c6, l6, rfl, hO6, hok6, hv6, hb10⟩
        have hb11 := hb9.trans (hb10.mono hb9.size)
        have hor6 := hor9.below hb10
        have hO7 : OV w6 w.heap.size A6 c6 l6 := hO6.mono (Nat.le_trans hb8.size hb9.size)
        have hsz6 := Nat.le_trans hb8.size hb11.size
        have HV6 := hideP hv6
        have H0 := hideP h0
        rw [HV.out] at HV6 ⊢
        generalize hdn : doneV (serV (valOf l) ((ds.map (·.d)).take k)).1 dx = dn at HV6 HT ⊢
        clear hdn hv6 h0
        have hl60 : (serV (valOf l) ((ds.map (·.d)).take k)).2.length ≤ 60 := by rw [hlen.out]; simp; omega
        have hsz7 := hb11.size
        have hne := rows_apart (m := w5.heap.size) (fun k hk => (World.ownsRow.lt hO6 k hk).1) (fun k hk => (World.ownsRow.lt hor9 k hk).2)
        obtain ⟨A7, c7, w7, hrun, hor7, hbel, hgr, _⟩ := app_row (P := Tryz.prog) Tryz.underlying66 boolInfo rfl w6 w4.heap.size 66 A2 c2 _ hor6 [.bool dn.2] (by simp [Value.oneCell']) (by simp; omega) (by decide) hsz7
        have hO8 : OV w7 w.heap.size A6 c6 l6 := World.ownsRow.kept (World.ownsRow.alloc hO7 _) hgr hne
        have hb12 := hbel w4.heap.size w4 (Nat.le_refl _) hb11
        have hl7 : ((serV (valOf l) ((ds.map (·.d)).take k)).2.map Value.bool ++ [Value.bool dn.2]) = (serV (valOf l) ((ds.map (·.d)).take (k + 1))).2.map Value.bool := by rw [HT.out]; simp
        rw [hl7, List.length_map, List.length_map] at hrun
        rw [hl7] at hor7
        have HR := hideP hrun
        have HC6 := hideP (show chkDs (ds.map (·.d)) = chkDs ((ds.map (·.d)).drop (k + 1)) by rw [HK.out, HN.out, if_pos H0.out])
        have HV7 := hideP (show valOf l6 = (serV (valOf l) ((ds.map (·.d)).take (k + 1))).1 by rw [HV6.out, HT.out])
        clear hrun hl7 hne hgr hbel hor6 hO7 hO6 hor9 hb11 hb10 hb9 hO9 hos9
        go_wp2_with (at_builtin; refine Lib.wpList_append_run _ rfl _ _ _ _ rfl _ _ rfl rfl _ _ HR.out ?_)
        go_roundw
        case rel => exact ⟨k + 1, A6, c6, l6, A7, c7, by simp; omega, by go_num, rfl, rfl, hO8, hok6, HV7.out, hor7, HC6.out, hb12⟩
        case measure => simp [intOf]; omega
      · refine (run_bad Ak Dx ck cx lk dx _ hO9.sv (by have := hok.small; omega) hos9 (by simp [chkR, chk_ok.2 hok, h0])).mono ?_
        rintro e w6 ⟨rfl, hb10⟩
        have hcr : chkR lk dx = chkD dx := by simp [chkR, chk_ok.2 hok]
        rw [hcr]
        have d0 : (chkD dx != 0) = true := by simp [h0]
        have HF := hideP (show chkDs (ds.map (·.d)) = chkD dx by rw [HK.out, HN.out, if_neg h0])
        have H0 := hideP h0
        clear hcr h0
        generalize hq : chkD dx = q at d0
        have HQ := hideP hq
        clear hq
        have hb11 := hb9.trans (hb10.mono hb9.size)
        have hb12 := hb8.trans (hb11.mono hb8.size)
        go_wp2_with fail
        go_ret3
        exact .inr ⟨by rw [HF.out]; exact H0.out, by rw [HF.out, HQ.out]; rfl, hb12⟩
    · have hall : (ds.map (·.d)).take k = ds.map (·.d) := List.take_of_length_le (by simp; omega)
      rw [hall] at HV hor ⊢
      have HF := hideP (show chkDs (ds.map (·.d)) = 0 by rw [HK.out, List.drop_of_length_le (by simp; omega)]; rfl)
      have hb12 := hb8.trans (hb.mono hb8.size)
      go_wp2_with fail
      go_ret3
      exact .inl ⟨HF.out, Ak, ck, lk, A2, c2, rfl, hOk, hok, HV.out, hor.mono hb8.size, hb12⟩
end Go.Proofs.YtpefdonhacmaoaaGreat
