/-
  parts.divide.
  store.Get.
  The values of keys (no program in it).
  store.Put at a valid store, key and value: the store with that key set, in memory of its own.
  What a transaction makes of the values of keys (no program in it).
-/
import Derived.Test.YtpefdonhacmaoaaGreatDoorBd7
import Derived.Test.YtpefdonhacmaoaaGreatDoorBd13
import Derived.Test.YtpefdonhacmaoaaGreatDoorBd10
import Derived.Test.YtpefdonhacmaoaaGreatDoorBd6
import Derived.Test.YtpefdonhacmaoaaGreatDoorBd12
import Derived.Test.YtpefdonhacmaoaaGreatDoorBd3
set_option linter.unusedVariables false
set_option linter.unusedSimpArgs false
namespace Go.Proofs.YtpefdonhacmaoaaGreatDoor
open Go.RowKit

/-- while the parts are made -/
structure DvH (w : World) (g : Nat) (m : Mp) (l : List Pr) (q : Dv) (k : Nat) (wr : World) : Prop where
  mh : MH w g m wr
  res : Box wr (g + 1) 74 #[.slice none 0 0, .slice none 0 0, .slice none 0 0, .slice none 0 0]
  box : Box wr (g + 2) 74 (q.up m.cs m.os l k)
  own : q.Own wr w.heap.size m.cs m.os l k
  low : w.heap.size ≤ g
section
variable {w wr w' : World} {g k : Nat} {m : Mp} {l : List Pr} {q : Dv}
theorem DvH.below (h : DvH w g m l q k wr) (hb : Below wr.heap.size wr w') : DvH w g m l q k w' := ⟨h.mh.below hb, h.res.below hb, h.box.below hb, h.own.below hb, h.low⟩
theorem DvH.step (h : DvH w g m l q k wr) (hm : MS w m) (hk : k < 4) {A : Option Addr} {c : Nat} (hov : OV wr w.heap.size A c (ptL m.cs m.os (k : Int) l)) : DvH w g m l (q.put k A c) (k + 1) (wr.setCell ⟨g + 2, k, none⟩ (.slice A (ptL m.cs m.os (k : Int) l).length c)) := by
  have hb := below_set (i := k) (v := .slice A (ptL m.cs m.os (k : Int) l).length c) h.mh.be (show w.heap.size ≤ g + 2 by have := h.low; omega)
  refine ⟨⟨h.mh.x0.other (by show g + 2 ≠ g; omega) _, hm.below hb, hb⟩, h.res.other (by show g + 2 ≠ g + 1; omega) _, ?_, (h.own.put hov).kept h.box.ty (by decide) (grown_set _ _ _ _), h.low⟩
  have := h.box.set k (.slice A (ptL m.cs m.os (k : Int) l).length c)
  rw [Dv.up_put hk] at this
  exact this
end
def DvI (w : World) (g : Nat) (m : Mp) (l : List Pr) (i : Value) (wr : World) : Prop := ∃ (k : Nat) (q : Dv), k ≤ 4 ∧ i = .int .i64 k ∧ DvH w g m l q k wr

set_option maxHeartbeats 1000000 in
set_option maxRecDepth 100000 in
theorem divide_ok (m : Mp) (A : Option Addr) (c : Nat) (l : List Pr) (w : World) (hm : MS w m) (hA : PS w w.heap.size A l) (hok : OkM m.cs m.os) (hokl : Ok l) :
    Calls Tryz.prog 29 #[.agg #[.slice m.A m.cs.length m.ca, .slice m.O m.os.length m.co], .slice A l.length c] w
      fun e w' => ∃ q : Dv, e = .returned (.tuple #[.agg (q.ar m.cs m.os l), .int .i64 0]) ∧ q.Own w' w.heap.size m.cs m.os l 4 ∧ Below w.heap.size w w' := by
  have hsm := hokl.small
  have b1 := (Below.refl w.heap.size w).alloc (Nat.le_refl _) (.cells #[.slice m.A m.cs.length m.ca, .slice m.O m.os.length m.co] 25)
  have hH := ((MH.new hm).alloc (o := .cells #[.slice none 0 0, .slice none 0 0, .slice none 0 0, .slice none 0 0] 74)).alloc (o := .cells #[.slice none 0 0, .slice none 0 0, .slice none 0 0, .slice none 0 0] 74)
  have x1 := (Box.new (w.alloc (.cells #[.slice m.A m.cs.length m.ca, .slice m.O m.os.length m.co] 25)) 74 #[.slice none 0 0, .slice none 0 0, .slice none 0 0, .slice none 0 0]).alloc (.cells #[.slice none 0 0, .slice none 0 0, .slice none 0 0, .slice none 0 0] 74)
  have x2 := Box.new ((w.alloc (.cells #[.slice m.A m.cs.length m.ca, .slice m.O m.os.length m.co] 25)).alloc (.cells #[.slice none 0 0, .slice none 0 0, .slice none 0 0, .slice none 0 0] 74)) 74 #[.slice none 0 0, .slice none 0 0, .slice none 0 0, .slice none 0 0]
  simp only [World.size_alloc] at x1 x2
  have hD : DvH w w.heap.size m l noD 0 _ := ⟨hH, x1, x2, fun j hj => absurd hj (by omega), Nat.le_refl _⟩
  clear x1 x2 b1 hH
  go_enter Tryz.func29, Tryz.ntmps29
  go_wp2_with fail
  generalize ((w.alloc _).alloc _).alloc _ = w1 at hD ⊢
  generalize hg : w.heap.size = g at hD ⊢
  go_loopw [10] (DvI w g m l) (fun i _ => 4 - (intOf i).toNat)
  case atStart => exact ⟨0, noD, by omega, rfl, hD⟩
  case round =>
    obtain ⟨k, q, hk, rfl, h⟩ := hrel
    clear hD
    by_cases hlt : k < 4
    · have g1 : (k : Int) < 4 := by omega
      have g2 : (0 : Int) ≤ (k : Int) := by omega
      obtain ⟨z1, z2⟩ := h.mh.c
      have HPT := hideP (shpart_any m A c l (k : Int) wr h.mh.ms ((hA.below h.mh.be).more h.mh.be.size) hok.l2 (by omega))
      rw [partV_ok (chkM_ok.2 hok) (chk_ok.2 hokl) (ownB_iff.2 (by omega))] at HPT
      go_wp2_with fail
      refine HPT.out.mono ?_
      rintro e w2 ⟨Ap, cp, rfl, hov, hb2⟩
      simp only at hov ⊢
      have hbe := h.mh.be.size
      replace h := h.below hb2
      have f1 := h.box.frozen k
      have c1 := h.box.cell k (Dv.up_at hlt hlt)
      clear hb2 z1 z2 HPT
      have HN := hideP (h.step hm hlt (hov.mono hbe))
      clear hov
      go_wp2_with fail
      go_roundw
      case rel => exact ⟨k + 1, q.put k Ap cp, by omega, by go_num, HN.out⟩
      case measure => simp [intOf]; omega
    · have hk4 : k = 4 := by omega
      have h4 : DvH w g m l q 4 wr := hk4 ▸ h
      clear h hk4
      have y0 := h4.box.cell 0 (v := q.s m.cs m.os l 0) rfl
      have y1 := h4.box.cell 1 (v := q.s m.cs m.os l 1) rfl
      have y2 := h4.box.cell 2 (v := q.s m.cs m.os l 2) rfl
      have y3 := h4.box.cell 3 (v := q.s m.cs m.os l 3) rfl
      have o := h4.res
      have HN := hideP (fun (xs : List (Nat × Value)) => show q.Own (xs.foldl (fun w x => w.setCell ⟨g + 1, x.1, none⟩ x.2) wr) w.heap.size m.cs m.os l 4 ∧ Below w.heap.size w (xs.foldl (fun w x => w.setCell ⟨g + 1, x.1, none⟩ x.2) wr) from
        ⟨h4.own.kept h4.res.ty (by decide) (grown_box xs), Below.kept h4.mh.be (by have := h4.low; omega) (grown_box xs)⟩)
      clear hm hA h4
      have HA := hideP (show #[q.s m.cs m.os l 0, q.s m.cs m.os l 1, q.s m.cs m.os l 2, q.s m.cs m.os l 3] = q.ar m.cs m.os l from rfl)
      have HL := hideP (HN.out [(0, q.s m.cs m.os l 0), (1, q.s m.cs m.os l 1), (2, q.s m.cs m.os l 2), (3, q.s m.cs m.os l 3)])
      simp only [List.foldl] at HL
      obtain ⟨a0, n0, c0, e0⟩ : ∃ a n c, q.s m.cs m.os l 0 = .slice a n c := ⟨_, _, _, rfl⟩
      rw [e0] at y0 HA HL
      obtain ⟨a1, n1, c1, e1⟩ : ∃ a n c, q.s m.cs m.os l 1 = .slice a n c := ⟨_, _, _, rfl⟩
      rw [e1] at y1 HA HL
      obtain ⟨a2, n2, c2, e2⟩ : ∃ a n c, q.s m.cs m.os l 2 = .slice a n c := ⟨_, _, _, rfl⟩
      rw [e2] at y2 HA HL
      obtain ⟨a3, n3, c3, e3⟩ : ∃ a n c, q.s m.cs m.os l 3 = .slice a n c := ⟨_, _, _, rfl⟩
      rw [e3] at y3 HA HL
      have o1 := o.set 0 (.slice a0 n0 c0)
      have o2 := o1.set 1 (.slice a1 n1 c1)
      have o3 := o2.set 2 (.slice a2 n2 c2)
      have o4 := o3.set 3 (.slice a3 n3 c3)
      have f0 := o.frozen 0
      have f1 := o1.frozen 1
      have f2 := o2.frozen 2
      have f3 := o3.frozen 3
      have d0 := o.cell 0 (v := .slice none 0 0) rfl
      have d1 := o1.cell 1 (v := .slice none 0 0) rfl
      have d2 := o2.cell 2 (v := .slice none 0 0) rfl
      have d3 := o3.cell 3 (v := .slice none 0 0) rfl
      have q0 := o4.cell 0 (v := .slice a0 n0 c0) rfl
      have q1 := o4.cell 1 (v := .slice a1 n1 c1) rfl
      have q2 := o4.cell 2 (v := .slice a2 n2 c2) rfl
      have q3 := o4.cell 3 (v := .slice a3 n3 c3) rfl
      clear o o1 o2 o3 o4 HN e0 e1 e2 e3
      go_wp2_with fail
      exact bodyPost_ret (v := .tuple #[.agg #[.slice a0 n0 c0, .slice a1 n1 c1, .slice a2 n2 c2, .slice a3 n3 c3], .int .i64 0]) (by simp [results, Tryz.results29, go_sem, q0, q1, q2, q3]) rfl ⟨q, by rw [HA.out], HL.out⟩
/-- the four slices, each spelt out -/
def Dv4 (q : Dv) (cs : List ByteArray) (os : List Int) (l : List Pr) (v0 v1 v2 v3 : Value) : Prop := q.s cs os l 0 = v0 ∧ q.s cs os l 1 = v1 ∧ q.s cs os l 2 = v2 ∧ q.s cs os l 3 = v3
def RetDv (w : World) (cs : List ByteArray) (os : List Int) (l : List Pr) (e : Ending) (w' : World) : Prop :=
  ∃ (q : Dv) (a0 a1 a2 a3 : Option Addr) (n0 n1 n2 n3 c0 c1 c2 c3 : Nat), e = .returned (.tuple #[.agg #[.slice a0 n0 c0, .slice a1 n1 c1, .slice a2 n2 c2, .slice a3 n3 c3], .int .i64 0]) ∧ Dv4 q cs os l (.slice a0 n0 c0) (.slice a1 n1 c1) (.slice a2 n2 c2) (.slice a3 n3 c3) ∧ q.Own w' w.heap.size cs os l 4 ∧ Below w.heap.size w w'
theorem divide_4 (m : Mp) (A : Option Addr) (c : Nat) (l : List Pr) (w : World) (hm : MS w m) (hA : PS w w.heap.size A l) (hok : OkM m.cs m.os) (hokl : Ok l) :
    Calls Tryz.prog 29 #[.agg #[.slice m.A m.cs.length m.ca, .slice m.O m.os.length m.co], .slice A l.length c] w (RetDv w m.cs m.os l) := by
  refine (divide_ok m A c l w hm hA hok hokl).mono ?_
  rintro e w' ⟨q, rfl, h1, h2⟩
  exact ⟨q, _, _, _, _, _, _, _, _, _, _, _, _, rfl, ⟨rfl, rfl, rfl, rfl⟩, h1, h2⟩
end Go.Proofs.YtpefdonhacmaoaaGreatDoor

set_option linter.unusedVariables false
set_option linter.unusedSimpArgs false
namespace Go.Proofs.YtpefdonhacmaoaaGreatDoor
open Go.RowKit

set_option maxHeartbeats 400000 in
set_option maxRecDepth 100000 in
theorem get_bad (A : Option Addr) (c : Nat) (l : List Pr) (key : ByteArray) (w : World) (hA : SV w A c l) (hl : l.length < 4611686018427387904) (h : chk ByteArray.empty l ≠ 0) :
    Calls Tryz.prog 120 #[.slice A l.length c, .string key] w fun e w' => e = .returned (.tuple #[.int .i64 0, .int .i64 (chk ByteArray.empty l)]) ∧ Below w.heap.size w w' := by
  have hps := hA.ps
  clear hA
  generalize hC : chk ByteArray.empty l = C at h
  have HC := hideP hC
  clear hC
  have d : (C != 0) = true := by simp [h]
  clear h
  go_enter Tryz.func120, Tryz.ntmps120
  go_wp2_with fail
  refine (check_any A c l _ hps hl).mono ?_
  rintro e w' ⟨rfl, hb⟩
  rw [HC.out]
  go_wp2_with fail
  go_ret2
  exact ⟨rfl, hb⟩

set_option maxHeartbeats 400000 in
set_option maxRecDepth 100000 in
theorem get_key (A : Option Addr) (c : Nat) (l : List Pr) (key : ByteArray) (w : World) (hA : SV w A c l) (hl : l.length < 4611686018427387904) (h : Ok l) (hk : keyB key = false) :
    Calls Tryz.prog 120 #[.slice A l.length c, .string key] w fun e w' => e = .returned (.tuple #[.int .i64 0, .int .i64 3]) ∧ Below w.heap.size w w' := by
  have hps := hA.ps
  have HC := hideP (chk_ok.2 h)
  clear hA h
  go_enter Tryz.func120, Tryz.ntmps120
  go_wp2_with fail
  refine (check_any A c l _ hps hl).mono ?_
  rintro e w' ⟨rfl, hb⟩
  rw [HC.out]
  go_wp2_with fail
  refine (key_any _ _).mono ?_
  rintro e w' ⟨rfl, rfl⟩
  go_wp2_with fail
  go_ret2
  exact ⟨rfl, hb⟩

set_option maxHeartbeats 400000 in
set_option maxRecDepth 100000 in
theorem get_ok (A : Option Addr) (c : Nat) (l : List Pr) (key : ByteArray) (w : World) (hA : SV w A c l) (hl : l.length < 4611686018427387904) (h : Ok l) (hk : keyB key = true) :
    Calls Tryz.prog 120 #[.slice A l.length c, .string key] w fun e w' => e = .returned (.tuple #[.int .i64 (valOf l key), .int .i64 0]) ∧ Below w.heap.size w w' := by
  have hps := hA.ps
  have HC := hideP (chk_ok.2 h)
  have hq := posOf_at h.srt key
  have hv := valOf_at hq h.srt
  clear hA h
  generalize posOf l key = q at hq hv
  cases hf : fnd l key q
  · have HV := hideP (show valOf l key = 0 by rw [hv, dif_neg (by rw [hf]; simp)])
    clear hv
    go_enter Tryz.func120, Tryz.ntmps120
    go_wp2_with fail
    refine (check_any A c l _ hps hl).mono ?_
    rintro e w1 ⟨rfl, hb⟩
    rw [HC.out]
    go_wp2_with fail
    refine (key_any _ _).mono ?_
    rintro e w' ⟨rfl, rfl⟩
    go_wp2_with fail
    refine (find_any A c l key q _ ((hps.below hb).more hb.size) hl hq).mono ?_
    rintro e w2 ⟨rfl, hb2⟩
    go_wp2_with fail
    go_ret2
    exact ⟨by rw [HV.out]; rfl, hb.trans (hb2.mono hb.size)⟩
  · have hql := fnd_lt hf
    have HV := hideP (show valOf l key = (l[q]).2 by rw [hv, dif_pos hf])
    clear hv
    go_enter Tryz.func120, Tryz.ntmps120
    go_wp2_with fail
    refine (check_any A c l _ hps hl).mono ?_
    rintro e w1 ⟨rfl, hb⟩
    rw [HC.out]
    go_wp2_with fail
    refine (key_any _ _).mono ?_
    rintro e w' ⟨rfl, rfl⟩
    go_wp2_with fail
    refine (find_any A c l key q _ ((hps.below hb).more hb.size) hl hq).mono ?_
    rintro e w2 ⟨rfl, hb2⟩
    have hb3 := hb.trans (hb2.mono hb.size)
    obtain ⟨b, o, rfl, hbl, c1, c2⟩ := hps.below hb3 q _ (List.getElem?_eq_getElem hql)
    clear hps hq
    generalize l[q] = p at c1 c2 HV
    go_wp2_with fail
    go_ret2
    exact ⟨by rw [HV.out]; rfl, hb3⟩
end Go.Proofs.YtpefdonhacmaoaaGreatDoor

set_option linter.unusedVariables false
set_option linter.unusedSimpArgs false
namespace Go.Proofs.YtpefdonhacmaoaaGreatDoor
open Go.RowKit

/-- the values of keys -/
abbrev VF := ByteArray → Int
def upd (v : VF) (k : ByteArray) (n : Int) : VF := fun j => if j = k then n else v j
theorem upd_same (v : VF) (k : ByteArray) (n : Int) : upd v k n k = n := by simp [upd]
theorem upd_other (v : VF) {k j : ByteArray} (n : Int) (h : j ≠ k) : upd v k n j = v j := by simp [upd, h]
theorem Ok.vb {l : List Pr} (h : Ok l) (k : ByteArray) : valB (valOf l k) = true := by
  by_cases h0 : valOf l k = 0
  · rw [h0]; decide
  · obtain ⟨p, hp, rfl⟩ := valOf_ne h0
    rw [valOf_mem h.srt hp]
    exact h.val p hp
theorem valB_iff {n : Int} : valB n = true ↔ -1000000000 ≤ n ∧ n ≤ 1000000000 := by simp [valB]
end Go.Proofs.YtpefdonhacmaoaaGreatDoor

set_option linter.unusedVariables false
set_option linter.unusedSimpArgs false
namespace Go.Proofs.YtpefdonhacmaoaaGreatDoor
open Go.RowKit

/-- a store with one key set is handed back, in memory of its own -/
def RetPut (w : World) (l : List Pr) (key : ByteArray) (n : Int) (e : Ending) (w' : World) : Prop :=
  ∃ A c l', e = .returned (.tuple #[.slice A l'.length c, .int .i64 0]) ∧ SV w' A c l' ∧ Ok l' ∧ valOf l' = upd (valOf l) key n ∧ (Below w.heap.size w w' ∧ OV w' w.heap.size A c l')
theorem put_st (A : Option Addr) (c : Nat) (l : List Pr) (key : ByteArray) (n : Int) (w : World) (hA : SV w A c l) (hl : Ok l) (hk : keyB key = true) (hn : valB n = true) :
    Calls Tryz.prog 119 #[.slice A l.length c, .string key, .int .i64 n] w (RetPut w l key n) := by
  have hq := posOf_at hl.srt key
  have := hl.small
  refine (put_own A c l key n (posOf l key) w hA hl hk hn hq (by omega)).mono ?_
  rintro e w' ⟨A', c', rfl, hsv, hb⟩
  have h := putL_ok hl hq hk hn
  exact ⟨A', c', _, rfl, hsv, h.1, funext h.2, hb⟩

set_option maxHeartbeats 400000 in
set_option maxRecDepth 100000 in
theorem put_nv (A : Option Addr) (c : Nat) (l : List Pr) (key : ByteArray) (n : Int) (w : World) (hA : SV w A c l) (h : Ok l) (hk : keyB key = true) (hn : valB n = false) :
    Calls Tryz.prog 119 #[.slice A l.length c, .string key, .int .i64 n] w fun e w' => e = .returned (.tuple #[.slice none 0 0, .int .i64 1]) ∧ Below w.heap.size w w' := by
  have hps := hA.ps
  have hl : l.length < 4611686018427387904 := by have := h.small; omega
  have HC := hideP (chk_ok.2 h)
  clear hA h
  go_enter Tryz.func119, Tryz.ntmps119
  go_wp2_with fail
  refine (check_any A c l _ hps hl).mono ?_
  rintro e w' ⟨rfl, hb⟩
  rw [HC.out]
  go_wp2_with fail
  refine (key_any _ _).mono ?_
  rintro e w' ⟨rfl, rfl⟩
  go_wp2_with fail
  refine (value_any _ _).mono ?_
  rintro e w' ⟨rfl, rfl⟩
  go_wp2_with fail
  go_ret2
  exact ⟨rfl, hb⟩
end Go.Proofs.YtpefdonhacmaoaaGreatDoor

set_option linter.unusedVariables false
set_option linter.unusedSimpArgs false
namespace Go.Proofs.YtpefdonhacmaoaaGreatDoor
open Go.RowKit

/-- a key set to a value, if that is a valid one -/
def putV (v : VF) (k : ByteArray) (n : Int) : Option VF := if valB n = true then some (upd v k n) else none
/-- what Move makes -/
def moveV (v : VF) (o : Opr) : Option VF :=
  if v o.src < o.n then none else putV (upd v o.src (v o.src - o.n)) o.key (upd v o.src (v o.src - o.n) o.key + o.n)
/-- what an operation makes -/
def stepV (v : VF) (o : Opr) : Option VF :=
  if o.kind = 1 then putV v o.key o.n
  else if o.kind = 2 then putV v o.key (v o.key + o.n)
  else if o.kind = 3 then putV v o.key (v o.src)
  else if o.kind = 4 then (if o.n ≤ v o.key then some v else none)
  else moveV v o
/-- what operations make, one after another -/
def runV (v : VF) : List Opr → Option VF
  | [] => some v
  | o :: r => match stepV v o with
    | some u => runV u r
    | none => none
theorem runV_nil (v : VF) : runV v [] = some v := rfl
theorem runV_cons (v : VF) (o : Opr) (r : List Opr) : runV v (o :: r) = (stepV v o).bind fun u => runV u r := by
  simp only [runV]
  cases stepV v o <;> rfl
theorem runV_append (v : VF) (l m : List Opr) : runV v (l ++ m) = (runV v l).bind fun u => runV u m := by
  induction l generalizing v with
  | nil => rfl
  | cons o r ih =>
    rw [List.cons_append, runV_cons, runV_cons]
    cases stepV v o with
    | none => rfl
    | some u => exact ih u
theorem runV_take {v u : VF} {l : List Opr} {k : Nat} (h : k < l.length) (hu : runV v (l.take k) = some u) : runV v (l.take (k + 1)) = stepV u l[k] := by
  rw [List.take_succ_eq_append_getElem h, runV_append, hu]
  show runV u [l[k]] = _
  rw [runV_cons]
  cases stepV u l[k] <;> rfl
theorem runV_none {v : VF} {l : List Opr} {k : Nat} (h : runV v (l.take k) = none) : runV v l = none := by
  rw [← List.take_append_drop k l, runV_append, h]; rfl
/-- what a transaction leaves, and whether it was executed -/
def doneV (v : VF) (l : List Opr) : VF × Bool := match runV v l with
  | some u => (u, true)
  | none => (v, false)
theorem doneV_some {v u : VF} {l : List Opr} (h : runV v l = some u) : doneV v l = (u, true) := by unfold doneV; rw [h]
theorem doneV_none {v : VF} {l : List Opr} (h : runV v l = none) : doneV v l = (v, false) := by unfold doneV; rw [h]
/-- transactions one after another: the values, and whether each was executed -/
def serV (v : VF) : List (List Opr) → VF × List Bool
  | [] => (v, [])
  | d :: r => ((serV (doneV v d).1 r).1, (doneV v d).2 :: (serV (doneV v d).1 r).2)
theorem serV_append (v : VF) (a b : List (List Opr)) : serV v (a ++ b) = ((serV (serV v a).1 b).1, (serV v a).2 ++ (serV (serV v a).1 b).2) := by
  induction a generalizing v with
  | nil => rfl
  | cons d r ih => simp [serV, ih]
theorem serV_len (v : VF) (a : List (List Opr)) : (serV v a).2.length = a.length := by
  induction a generalizing v with
  | nil => rfl
  | cons d r ih => simp [serV, ih]
theorem serV_take {v : VF} {a : List (List Opr)} {k : Nat} (h : k < a.length) : serV v (a.take (k + 1)) = ((doneV (serV v (a.take k)).1 a[k]).1, (serV v (a.take k)).2 ++ [(doneV (serV v (a.take k)).1 a[k]).2]) := by
  rw [List.take_succ_eq_append_getElem h, serV_append]; rfl
end Go.Proofs.YtpefdonhacmaoaaGreatDoor
