/-
  (*parts.Parts).All.
  store.Get.
  The values of keys (no program in it).
  store.Put at a valid store, key and value: the store with that key set, in memory of its own.
  What a transaction makes of the values of keys (no program in it).
-/
import Derived.Test.YtpefdonhacmaoaaBe17
import Derived.Test.YtpefdonhacmaoaaBe19
import Derived.Test.YtpefdonhacmaoaaBe8
import Derived.Test.YtpefdonhacmaoaaBe18
import Derived.Test.YtpefdonhacmaoaaBe6
import Derived.Test.YtpefdonhacmaoaaBe3
set_option linter.unusedVariables false
set_option linter.unusedSimpArgs false
namespace Go.Proofs.Ytpefdonhacmaoaa
open Go.RowKit

/-- the parts of the owners so far, joined -/
theorem all_join {cs : List ByteArray} {os : List Int} {l y : List Pr} {n : Int} (h : Ok l) (hj : Joined (upL cs os n l) (ptL cs os n l) y) : y = upL cs os (n + 1) l :=
  hj.ok.one_ (upL_ok h _) fun p => by rw [hj.mem, up_mem]
def AlI (w : World) (m : Mp) (l : List Pr) (v i : Value) (wr : World) : Prop :=
  ∃ (k : Nat) (A : Option Addr) (c : Nat), k ≤ 4 ∧ i = .int .i64 k ∧ v = .slice A (upL m.cs m.os (k : Int) l).length c ∧ OV wr w.heap.size A c (upL m.cs m.os (k : Int) l) ∧ Below w.heap.size w wr

set_option maxHeartbeats 1000000 in
set_option maxRecDepth 100000 in
theorem all_ok (B g : Nat) (m : Mp) (l : List Pr) (q : Dv) (w : World) (h : PB w B g m l q) :
    Calls Try.prog 14 #[.pointer (some ⟨g, 0, none⟩)] w fun e w' => ∃ A c, e = .returned (.slice A l.length c) ∧ OV w' w.heap.size A c l ∧ Below w.heap.size w w' := by
  have p0 : w.cell? ⟨g, 2, none⟩ = some (q.s m.cs m.os l 0) := h.box.cell 2 rfl
  have p1 : w.cell? ⟨g, 3, none⟩ = some (q.s m.cs m.os l 1) := h.box.cell 3 rfl
  have p2 : w.cell? ⟨g, 4, none⟩ = some (q.s m.cs m.os l 2) := h.box.cell 4 rfl
  have p3 : w.cell? ⟨g, 5, none⟩ = some (q.s m.cs m.os l 3) := h.box.cell 5 rfl
  have hsm := h.ok.small
  go_enter Try.func14, Try.ntmps14
  go_wp2_with fail
  go_loopw [3, 10] (AlI w m l) (fun _ i _ => 4 - (intOf i).toNat)
  case atStart => exact ⟨0, none, 0, by omega, rfl, by rw [show ((0 : Nat) : Int) = 0 from rfl, upL_zero h.okm]; rfl, by rw [show ((0 : Nat) : Int) = 0 from rfl, upL_zero h.okm]; exact World.ownsRow_nil _ _ _ _, Below.refl _ _⟩
  case round =>
    obtain ⟨k, A, c, hk, rfl, rfl, hov, hb⟩ := hrel
    by_cases hk4 : k < 4
    · have HJ : Hid (Calls Try.prog 24 #[.slice A (upL m.cs m.os (k : Int) l).length c, q.s m.cs m.os l k] wr fun e w' => ∃ A' c', e = .returned (.tuple #[.slice A' (upL m.cs m.os ((k + 1 : Nat) : Int) l).length c', .int .i64 0]) ∧ OV w' w.heap.size A' c' (upL m.cs m.os ((k + 1 : Nat) : Int) l) ∧ Below w.heap.size w w') := hideP (by
        have hu : (upL m.cs m.os (k : Int) l).length ≤ l.length := List.length_filter_le _ _
        have hp : (ptL m.cs m.os (k : Int) l).length ≤ l.length := List.length_filter_le _ _
        refine (join_own A (q.A k) c (q.c k) _ _ wr hov.sv ((h.own k hk4).below hb |>.sv) (upL_ok h.ok _) (ptL_ok h.ok _) (by omega)).mono ?_
        rintro e w1 ⟨hor, hb1⟩
        rcases hor with ⟨hna, _⟩ | ⟨A1, c1, y, rfl, hy, hj⟩
        · exact absurd (show Apart _ _ from up_apart (k : Int)) hna
        · have e := all_join h.ok hj
          rw [show ((k + 1 : Nat) : Int) = (k : Int) + 1 by omega, ← e]
          exact ⟨A1, c1, rfl, hy.mono hb.size, hb.trans (hb1.mono hb.size)⟩)
      have HI := hideP (fun (A' : Option Addr) (c' : Nat) (w' : World) (h1 : OV w' w.heap.size A' c' (upL m.cs m.os ((k + 1 : Nat) : Int) l)) (h2 : Below w.heap.size w w') (i : Value) (hi : i = .int .i64 ((k + 1 : Nat) : Int)) => show AlI w m l (.slice A' (upL m.cs m.os ((k + 1 : Nat) : Int) l).length c') i w' from ⟨k + 1, A', c', by omega, hi, rfl, h1, h2⟩)
      generalize upL m.cs m.os (k : Int) l = up at HJ ⊢
      generalize upL m.cs m.os ((k + 1 : Nat) : Int) l = nx at HJ HI
      have ix := fun w => idx4 q m.cs m.os l hk4 w
      have g1 : (k : Int) < 4 := by omega
      obtain ⟨ak, nk, ck, ek⟩ : ∃ a n c, q.s m.cs m.os l k = .slice a n c := ⟨_, _, _, rfl⟩
      rw [ek] at ix HJ
      clear h hov hb p0 p1 p2 p3 ek
      go_wp2_with fail
      refine HJ.out.mono ?_
      rintro e w1 ⟨A1, c1, rfl, ho1, hb1⟩
      go_wp2_with fail
      go_roundw
      case rel => exact HI.out _ _ _ ho1 hb1 _ (by go_num)
      case measure => simp [intOf]; omega
    · have hk5 : k = 4 := by omega
      have e4 : upL m.cs m.os (k : Int) l = l := by rw [hk5]; exact upL_all h.okm
      rw [e4] at hov ⊢
      clear e4 hk5
      have g4 : ¬ (k : Int) < 4 := by omega
      go_wp2_with fail
      go_ret
      exact ⟨A, c, rfl, hov, hb⟩
end Go.Proofs.Ytpefdonhacmaoaa

set_option linter.unusedVariables false
set_option linter.unusedSimpArgs false
namespace Go.Proofs.Ytpefdonhacmaoaa
open Go.RowKit

set_option maxHeartbeats 400000 in
set_option maxRecDepth 100000 in
theorem get_bad (A : Option Addr) (c : Nat) (l : List Pr) (key : ByteArray) (w : World) (hA : SV w A c l) (hl : l.length < 4611686018427387904) (h : chk ByteArray.empty l ≠ 0) :
    Calls Try.prog 74 #[.slice A l.length c, .string key] w fun e w' => e = .returned (.tuple #[.int .i64 0, .int .i64 (chk ByteArray.empty l)]) ∧ Below w.heap.size w w' := by
  have hps := hA.ps
  clear hA
  generalize hC : chk ByteArray.empty l = C at h
  have HC := hideP hC
  clear hC
  have d : (C != 0) = true := by simp [h]
  clear h
  go_enter Try.func74, Try.ntmps74
  go_wp2_with fail
  refine (check_any A c l _ hps hl).mono ?_
  rintro e w' ⟨rfl, hb⟩
  rw [HC.out]
  go_wp2_with fail
  go_ret2
  exact ⟨rfl, hb⟩

set_option maxHeartbeats 400000 in
set_option maxRecDepth 100000 in
theorem get_key (A : Option Addr) (c : Nat) (l : List Pr) (key : ByteArray) (w : World) (hA : SV w A c l) (hl : l.length < 4611686018427387904) (h : Ok l) (hk : keyB key = false) :
    Calls Try.prog 74 #[.slice A l.length c, .string key] w fun e w' => e = .returned (.tuple #[.int .i64 0, .int .i64 3]) ∧ Below w.heap.size w w' := by
  have hps := hA.ps
  have HC := hideP (chk_ok.2 h)
  clear hA h
  go_enter Try.func74, Try.ntmps74
  go_wp2_with fail
  refine (check_any A c l _ hps hl).mono ?_
  rintro e w' ⟨rfl, hb⟩
  rw [HC.out]
  go_wp2_with fail
  refine (key_any _ _).mono ?_
  rintro e w' ⟨rfl, rfl⟩
  go_wp2_with fail
  go_ret2
  exact ⟨rfl, hb⟩

set_option maxHeartbeats 400000 in
set_option maxRecDepth 100000 in
theorem get_ok (A : Option Addr) (c : Nat) (l : List Pr) (key : ByteArray) (w : World) (hA : SV w A c l) (hl : l.length < 4611686018427387904) (h : Ok l) (hk : keyB key = true) :
    Calls Try.prog 74 #[.slice A l.length c, .string key] w fun e w' => e = .returned (.tuple #[.int .i64 (valOf l key), .int .i64 0]) ∧ Below w.heap.size w w' := by
  have hps := hA.ps
  have HC := hideP (chk_ok.2 h)
  have hq := posOf_at h.srt key
  have hv := valOf_at hq h.srt
  clear hA h
  generalize posOf l key = q at hq hv
  cases hf : fnd l key q
  · have HV := hideP (show valOf l key = 0 by rw [hv, dif_neg (by rw [hf]; simp)])
    clear hv
    go_enter Try.func74, Try.ntmps74
    go_wp2_with fail
    refine (check_any A c l _ hps hl).mono ?_
    rintro e w1 ⟨rfl, hb⟩
    rw [HC.out]
    go_wp2_with fail
    refine (key_any _ _).mono ?_
    rintro e w' ⟨rfl, rfl⟩
    go_wp2_with fail
    refine (find_any A c l key q _ ((hps.below hb).more hb.size) hl hq).mono ?_
    rintro e w2 ⟨rfl, hb2⟩
    go_wp2_with fail
    go_ret2
    exact ⟨by rw [HV.out]; rfl, hb.trans (hb2.mono hb.size)⟩
  · have hql := fnd_lt hf
    have HV := hideP (show valOf l key = (l[q]).2 by rw [hv, dif_pos hf])
    clear hv
    go_enter Try.func74, Try.ntmps74
    go_wp2_with fail
    refine (check_any A c l _ hps hl).mono ?_
    rintro e w1 ⟨rfl, hb⟩
    rw [HC.out]
    go_wp2_with fail
    refine (key_any _ _).mono ?_
    rintro e w' ⟨rfl, rfl⟩
    go_wp2_with fail
    refine (find_any A c l key q _ ((hps.below hb).more hb.size) hl hq).mono ?_
    rintro e w2 ⟨rfl, hb2⟩
    have hb3 := hb.trans (hb2.mono hb.size)
    obtain ⟨b, o, rfl, hbl, c1, c2⟩ := hps.below hb3 q _ (List.getElem?_eq_getElem hql)
    clear hps hq
    generalize l[q] = p at c1 c2 HV
    go_wp2_with fail
    go_ret2
    exact ⟨by rw [HV.out]; rfl, hb3⟩
end Go.Proofs.Ytpefdonhacmaoaa

set_option linter.unusedVariables false
set_option linter.unusedSimpArgs false
namespace Go.Proofs.Ytpefdonhacmaoaa
open Go.RowKit

/-- the values of keys -/
abbrev VF := ByteArray → Int
def upd (v : VF) (k : ByteArray) (n : Int) : VF := fun j => if j = k then n else v j
theorem upd_same (v : VF) (k : ByteArray) (n : Int) : upd v k n k = n := by simp [upd]
theorem upd_other (v : VF) {k j : ByteArray} (n : Int) (h : j ≠ k) : upd v k n j = v j := by simp [upd, h]
theorem Ok.vb {l : List Pr} (h : Ok l) (k : ByteArray) : valB (valOf l k) = true := by
  by_cases h0 : valOf l k = 0
  · rw [h0]; decide
  · obtain ⟨p, hp, rfl⟩ := valOf_ne h0
    rw [valOf_mem h.srt hp]
    exact h.val p hp
theorem valB_iff {n : Int} : valB n = true ↔ -1000000000 ≤ n ∧ n ≤ 1000000000 := by simp [valB]
end Go.Proofs.Ytpefdonhacmaoaa

set_option linter.unusedVariables false
set_option linter.unusedSimpArgs false
namespace Go.Proofs.Ytpefdonhacmaoaa
open Go.RowKit

/-- a store with one key set is handed back, in memory of its own -/
def RetPut (w : World) (l : List Pr) (key : ByteArray) (n : Int) (e : Ending) (w' : World) : Prop :=
  ∃ A c l', e = .returned (.tuple #[.slice A l'.length c, .int .i64 0]) ∧ SV w' A c l' ∧ Ok l' ∧ valOf l' = upd (valOf l) key n ∧ (Below w.heap.size w w' ∧ OV w' w.heap.size A c l')
theorem put_st (A : Option Addr) (c : Nat) (l : List Pr) (key : ByteArray) (n : Int) (w : World) (hA : SV w A c l) (hl : Ok l) (hk : keyB key = true) (hn : valB n = true) :
    Calls Try.prog 73 #[.slice A l.length c, .string key, .int .i64 n] w (RetPut w l key n) := by
  have hq := posOf_at hl.srt key
  have := hl.small
  refine (put_own A c l key n (posOf l key) w hA hl hk hn hq (by omega)).mono ?_
  rintro e w' ⟨A', c', rfl, hsv, hb⟩
  have h := putL_ok hl hq hk hn
  exact ⟨A', c', _, rfl, hsv, h.1, funext h.2, hb⟩

set_option maxHeartbeats 400000 in
set_option maxRecDepth 100000 in
theorem put_nv (A : Option Addr) (c : Nat) (l : List Pr) (key : ByteArray) (n : Int) (w : World) (hA : SV w A c l) (h : Ok l) (hk : keyB key = true) (hn : valB n = false) :
    Calls Try.prog 73 #[.slice A l.length c, .string key, .int .i64 n] w fun e w' => e = .returned (.tuple #[.slice none 0 0, .int .i64 1]) ∧ Below w.heap.size w w' := by
  have hps := hA.ps
  have hl : l.length < 4611686018427387904 := by have := h.small; omega
  have HC := hideP (chk_ok.2 h)
  clear hA h
  go_enter Try.func73, Try.ntmps73
  go_wp2_with fail
  refine (check_any A c l _ hps hl).mono ?_
  rintro e w' ⟨rfl, hb⟩
  rw [HC.out]
  go_wp2_with fail
  refine (key_any _ _).mono ?_
  rintro e w' ⟨rfl, rfl⟩
  go_wp2_with fail
  refine (value_any _ _).mono ?_
  rintro e w' ⟨rfl, rfl⟩
  go_wp2_with fail
  go_ret2
  exact ⟨rfl, hb⟩
end Go.Proofs.Ytpefdonhacmaoaa

set_option linter.unusedVariables false
set_option linter.unusedSimpArgs false
namespace Go.Proofs.Ytpefdonhacmaoaa
open Go.RowKit

/-- a key set to a value, if that is a valid one -/
def putV (v : VF) (k : ByteArray) (n : Int) : Option VF := if valB n = true then some (upd v k n) else none
/-- what Move makes -/
def moveV (v : VF) (o : Opr) : Option VF :=
  if v o.src < o.n then none else putV (upd v o.src (v o.src - o.n)) o.key (upd v o.src (v o.src - o.n) o.key + o.n)
/-- what an operation makes -/
def stepV (v : VF) (o : Opr) : Option VF :=
  if o.kind = 1 then putV v o.key o.n
  else if o.kind = 2 then putV v o.key (v o.key + o.n)
  else if o.kind = 3 then putV v o.key (v o.src)
  else if o.kind = 4 then (if o.n ≤ v o.key then some v else none)
  else moveV v o
/-- what operations make, one after another -/
def runV (v : VF) : List Opr → Option VF
  | [] => some v
  | o :: r => match stepV v o with
    | some u => runV u r
    | none => none
theorem runV_nil (v : VF) : runV v [] = some v := rfl
theorem runV_cons (v : VF) (o : Opr) (r : List Opr) : runV v (o :: r) = (stepV v o).bind fun u => runV u r := by
  simp only [runV]
  cases stepV v o <;> rfl
theorem runV_append (v : VF) (l m : List Opr) : runV v (l ++ m) = (runV v l).bind fun u => runV u m := by
  induction l generalizing v with
  | nil => rfl
  | cons o r ih =>
    rw [List.cons_append, runV_cons, runV_cons]
    cases stepV v o with
    | none => rfl
    | some u => exact ih u
theorem runV_take {v u : VF} {l : List Opr} {k : Nat} (h : k < l.length) (hu : runV v (l.take k) = some u) : runV v (l.take (k + 1)) = stepV u l[k] := by
  rw [List.take_succ_eq_append_getElem h, runV_append, hu]
  show runV u [l[k]] = _
  rw [runV_cons]
  cases stepV u l[k] <;> rfl
theorem runV_none {v : VF} {l : List Opr} {k : Nat} (h : runV v (l.take k) = none) : runV v l = none := by
  rw [← List.take_append_drop k l, runV_append, h]; rfl
/-- what a transaction leaves, and whether it was executed -/
def doneV (v : VF) (l : List Opr) : VF × Bool := match runV v l with
  | some u => (u, true)
  | none => (v, false)
theorem doneV_some {v u : VF} {l : List Opr} (h : runV v l = some u) : doneV v l = (u, true) := by unfold doneV; rw [h]
theorem doneV_none {v : VF} {l : List Opr} (h : runV v l = none) : doneV v l = (v, false) := by unfold doneV; rw [h]
/-- transactions one after another: the values, and whether each was executed -/
def serV (v : VF) : List (List Opr) → VF × List Bool
  | [] => (v, [])
  | d :: r => ((serV (doneV v d).1 r).1, (doneV v d).2 :: (serV (doneV v d).1 r).2)
theorem serV_append (v : VF) (a b : List (List Opr)) : serV v (a ++ b) = ((serV (serV v a).1 b).1, (serV v a).2 ++ (serV (serV v a).1 b).2) := by
  induction a generalizing v with
  | nil => rfl
  | cons d r ih => simp [serV, ih]
theorem serV_len (v : VF) (a : List (List Opr)) : (serV v a).2.length = a.length := by
  induction a generalizing v with
  | nil => rfl
  | cons d r ih => simp [serV, ih]
theorem serV_take {v : VF} {a : List (List Opr)} {k : Nat} (h : k < a.length) : serV v (a.take (k + 1)) = ((doneV (serV v (a.take k)).1 a[k]).1, (serV v (a.take k)).2 ++ [(doneV (serV v (a.take k)).1 a[k]).2]) := by
  rw [List.take_succ_eq_append_getElem h, serV_append]; rfl
end Go.Proofs.Ytpefdonhacmaoaa
