/-
  store.Get.
  The values of keys (no program in it).
  store.Put at a valid store, key and value: the store with that key set, in memory of its own.
  What a transaction makes of the values of keys (no program in it).
  deed.put, deed.get, deed.move and deed.step.
  The cells of an operation that was handed over (no program in it).
  deed.step.
-/
import Derived.Test.YtmepmiokpcddbabGreatDoorCb19
import Derived.Test.YtmepmiokpcddbabGreatDoorCb7
import Derived.Test.YtmepmiokpcddbabGreatDoorCb17
import Derived.Test.YtmepmiokpcddbabGreatDoorCb2
import Derived.Deep.RegionHeld3
import Derived.OwnWalk
set_option linter.unusedVariables false
set_option linter.unusedSimpArgs false
namespace Go.Proofs.YtmepmiokpcddbabGreatDoor
open Go.RowKit

set_option maxHeartbeats 400000 in
set_option maxRecDepth 100000 in
theorem get_bad (A : Option Addr) (c : Nat) (l : List Pr) (key : ByteArray) (w : World) (hA : SV w A c l) (hl : l.length < 4611686018427387904) (h : chk ByteArray.empty l ≠ 0) :
    Calls Tryz.prog 201 #[.slice A l.length c, .string key] w fun e w' => e = .returned (.tuple #[.int .i64 0, .int .i64 (chk ByteArray.empty l)]) ∧ Below w.heap.size w w' := by
  have hps := hA.ps
  clear hA
  generalize hC : chk ByteArray.empty l = C at h
  have HC := hideP hC
  clear hC
  have d : (C != 0) = true := by simp [h]
  clear h
  go_enter Tryz.func201, Tryz.ntmps201
  go_wp2_with fail
  refine (check_any A c l _ hps hl).mono ?_
  rintro e w' ⟨rfl, hb⟩
  rw [HC.out]
  go_wp2_with fail
  go_ret2
  exact ⟨rfl, hb⟩

set_option maxHeartbeats 400000 in
set_option maxRecDepth 100000 in
theorem get_key (A : Option Addr) (c : Nat) (l : List Pr) (key : ByteArray) (w : World) (hA : SV w A c l) (hl : l.length < 4611686018427387904) (h : Ok l) (hk : keyB key = false) :
    Calls Tryz.prog 201 #[.slice A l.length c, .string key] w fun e w' => e = .returned (.tuple #[.int .i64 0, .int .i64 3]) ∧ Below w.heap.size w w' := by
  have hps := hA.ps
  have HC := hideP (chk_ok.2 h)
  clear hA h
  go_enter Tryz.func201, Tryz.ntmps201
  go_wp2_with fail
  refine (check_any A c l _ hps hl).mono ?_
  rintro e w' ⟨rfl, hb⟩
  rw [HC.out]
  go_wp2_with fail
  refine (key_any _ _).mono ?_
  rintro e w' ⟨rfl, rfl⟩
  go_wp2_with fail
  go_ret2
  exact ⟨rfl, hb⟩

set_option maxHeartbeats 400000 in
set_option maxRecDepth 100000 in
theorem get_ok (A : Option Addr) (c : Nat) (l : List Pr) (key : ByteArray) (w : World) (hA : SV w A c l) (hl : l.length < 4611686018427387904) (h : Ok l) (hk : keyB key = true) :
    Calls Tryz.prog 201 #[.slice A l.length c, .string key] w fun e w' => e = .returned (.tuple #[.int .i64 (valOf l key), .int .i64 0]) ∧ Below w.heap.size w w' := by
  have hps := hA.ps
  have HC := hideP (chk_ok.2 h)
  have hq := posOf_at h.srt key
  have hv := valOf_at hq h.srt
  clear hA h
  generalize posOf l key = q at hq hv
  cases hf : fnd l key q
  · have HV := hideP (show valOf l key = 0 by rw [hv, dif_neg (by rw [hf]; simp)])
    clear hv
    go_enter Tryz.func201, Tryz.ntmps201
    go_wp2_with fail
    refine (check_any A c l _ hps hl).mono ?_
    rintro e w1 ⟨rfl, hb⟩
    rw [HC.out]
    go_wp2_with fail
    refine (key_any _ _).mono ?_
    rintro e w' ⟨rfl, rfl⟩
    go_wp2_with fail
    refine (find_any A c l key q _ ((hps.below hb).more hb.size) hl hq).mono ?_
    rintro e w2 ⟨rfl, hb2⟩
    go_wp2_with fail
    go_ret2
    exact ⟨by rw [HV.out]; rfl, hb.trans (hb2.mono hb.size)⟩
  · have hql := fnd_lt hf
    have HV := hideP (show valOf l key = (l[q]).2 by rw [hv, dif_pos hf])
    clear hv
    go_enter Tryz.func201, Tryz.ntmps201
    go_wp2_with fail
    refine (check_any A c l _ hps hl).mono ?_
    rintro e w1 ⟨rfl, hb⟩
    rw [HC.out]
    go_wp2_with fail
    refine (key_any _ _).mono ?_
    rintro e w' ⟨rfl, rfl⟩
    go_wp2_with fail
    refine (find_any A c l key q _ ((hps.below hb).more hb.size) hl hq).mono ?_
    rintro e w2 ⟨rfl, hb2⟩
    have hb3 := hb.trans (hb2.mono hb.size)
    obtain ⟨b, o, rfl, hbl, c1, c2⟩ := hps.below hb3 q _ (List.getElem?_eq_getElem hql)
    clear hps hq
    generalize l[q] = p at c1 c2 HV
    go_wp2_with fail
    go_ret2
    exact ⟨by rw [HV.out]; rfl, hb3⟩
end Go.Proofs.YtmepmiokpcddbabGreatDoor

set_option linter.unusedVariables false
set_option linter.unusedSimpArgs false
namespace Go.Proofs.YtmepmiokpcddbabGreatDoor
open Go.RowKit

/-- the values of keys -/
abbrev VF := ByteArray → Int
def upd (v : VF) (k : ByteArray) (n : Int) : VF := fun j => if j = k then n else v j
theorem upd_same (v : VF) (k : ByteArray) (n : Int) : upd v k n k = n := by simp [upd]
theorem upd_other (v : VF) {k j : ByteArray} (n : Int) (h : j ≠ k) : upd v k n j = v j := by simp [upd, h]
theorem Ok.vb {l : List Pr} (h : Ok l) (k : ByteArray) : valB (valOf l k) = true := by
  by_cases h0 : valOf l k = 0
  · rw [h0]; decide
  · obtain ⟨p, hp, rfl⟩ := valOf_ne h0
    rw [valOf_mem h.srt hp]
    exact h.val p hp
theorem valB_iff {n : Int} : valB n = true ↔ -1000000000 ≤ n ∧ n ≤ 1000000000 := by simp [valB]
end Go.Proofs.YtmepmiokpcddbabGreatDoor

set_option linter.unusedVariables false
set_option linter.unusedSimpArgs false
namespace Go.Proofs.YtmepmiokpcddbabGreatDoor
open Go.RowKit

/-- a store with one key set is handed back, in memory of its own -/
def RetPut (w : World) (l : List Pr) (key : ByteArray) (n : Int) (e : Ending) (w' : World) : Prop :=
  ∃ A c l', e = .returned (.tuple #[.slice A l'.length c, .int .i64 0]) ∧ SV w' A c l' ∧ Ok l' ∧ valOf l' = upd (valOf l) key n ∧ (Below w.heap.size w w' ∧ OV w' w.heap.size A c l')
theorem put_st (A : Option Addr) (c : Nat) (l : List Pr) (key : ByteArray) (n : Int) (w : World) (hA : SV w A c l) (hl : Ok l) (hk : keyB key = true) (hn : valB n = true) :
    Calls Tryz.prog 200 #[.slice A l.length c, .string key, .int .i64 n] w (RetPut w l key n) := by
  have hq := posOf_at hl.srt key
  have := hl.small
  refine (put_own A c l key n (posOf l key) w hA hl hk hn hq (by omega)).mono ?_
  rintro e w' ⟨A', c', rfl, hsv, hb⟩
  have h := putL_ok hl hq hk hn
  exact ⟨A', c', _, rfl, hsv, h.1, funext h.2, hb⟩

set_option maxHeartbeats 400000 in
set_option maxRecDepth 100000 in
theorem put_nv (A : Option Addr) (c : Nat) (l : List Pr) (key : ByteArray) (n : Int) (w : World) (hA : SV w A c l) (h : Ok l) (hk : keyB key = true) (hn : valB n = false) :
    Calls Tryz.prog 200 #[.slice A l.length c, .string key, .int .i64 n] w fun e w' => e = .returned (.tuple #[.slice none 0 0, .int .i64 1]) ∧ Below w.heap.size w w' := by
  have hps := hA.ps
  have hl : l.length < 4611686018427387904 := by have := h.small; omega
  have HC := hideP (chk_ok.2 h)
  clear hA h
  go_enter Tryz.func200, Tryz.ntmps200
  go_wp2_with fail
  refine (check_any A c l _ hps hl).mono ?_
  rintro e w' ⟨rfl, hb⟩
  rw [HC.out]
  go_wp2_with fail
  refine (key_any _ _).mono ?_
  rintro e w' ⟨rfl, rfl⟩
  go_wp2_with fail
  refine (value_any _ _).mono ?_
  rintro e w' ⟨rfl, rfl⟩
  go_wp2_with fail
  go_ret2
  exact ⟨rfl, hb⟩
end Go.Proofs.YtmepmiokpcddbabGreatDoor

set_option linter.unusedVariables false
set_option linter.unusedSimpArgs false
namespace Go.Proofs.YtmepmiokpcddbabGreatDoor
open Go.RowKit

/-- a key set to a value, if that is a valid one -/
def putV (v : VF) (k : ByteArray) (n : Int) : Option VF := if valB n = true then some (upd v k n) else none
/-- what Move makes -/
def moveV (v : VF) (o : Opr) : Option VF :=
  if v o.src < o.n then none else putV (upd v o.src (v o.src - o.n)) o.key (upd v o.src (v o.src - o.n) o.key + o.n)
/-- what an operation makes -/
def stepV (v : VF) (o : Opr) : Option VF :=
  if o.kind = 1 then putV v o.key o.n
  else if o.kind = 2 then putV v o.key (v o.key + o.n)
  else if o.kind = 3 then putV v o.key (v o.src)
  else if o.kind = 4 then (if o.n ≤ v o.key then some v else none)
  else moveV v o
/-- what operations make, one after another -/
def runV (v : VF) : List Opr → Option VF
  | [] => some v
  | o :: r => match stepV v o with
    | some u => runV u r
    | none => none
theorem runV_nil (v : VF) : runV v [] = some v := rfl
theorem runV_cons (v : VF) (o : Opr) (r : List Opr) : runV v (o :: r) = (stepV v o).bind fun u => runV u r := by
  simp only [runV]
  cases stepV v o <;> rfl
theorem runV_append (v : VF) (l m : List Opr) : runV v (l ++ m) = (runV v l).bind fun u => runV u m := by
  induction l generalizing v with
  | nil => rfl
  | cons o r ih =>
    rw [List.cons_append, runV_cons, runV_cons]
    cases stepV v o with
    | none => rfl
    | some u => exact ih u
theorem runV_take {v u : VF} {l : List Opr} {k : Nat} (h : k < l.length) (hu : runV v (l.take k) = some u) : runV v (l.take (k + 1)) = stepV u l[k] := by
  rw [List.take_succ_eq_append_getElem h, runV_append, hu]
  show runV u [l[k]] = _
  rw [runV_cons]
  cases stepV u l[k] <;> rfl
theorem runV_none {v : VF} {l : List Opr} {k : Nat} (h : runV v (l.take k) = none) : runV v l = none := by
  rw [← List.take_append_drop k l, runV_append, h]; rfl
/-- what a transaction leaves, and whether it was executed -/
def doneV (v : VF) (l : List Opr) : VF × Bool := match runV v l with
  | some u => (u, true)
  | none => (v, false)
theorem doneV_some {v u : VF} {l : List Opr} (h : runV v l = some u) : doneV v l = (u, true) := by unfold doneV; rw [h]
theorem doneV_none {v : VF} {l : List Opr} (h : runV v l = none) : doneV v l = (v, false) := by unfold doneV; rw [h]
/-- transactions one after another: the values, and whether each was executed -/
def serV (v : VF) : List (List Opr) → VF × List Bool
  | [] => (v, [])
  | d :: r => ((serV (doneV v d).1 r).1, (doneV v d).2 :: (serV (doneV v d).1 r).2)
theorem serV_append (v : VF) (a b : List (List Opr)) : serV v (a ++ b) = ((serV (serV v a).1 b).1, (serV v a).2 ++ (serV (serV v a).1 b).2) := by
  induction a generalizing v with
  | nil => rfl
  | cons d r ih => simp [serV, ih]
theorem serV_len (v : VF) (a : List (List Opr)) : (serV v a).2.length = a.length := by
  induction a generalizing v with
  | nil => rfl
  | cons d r ih => simp [serV, ih]
theorem serV_take {v : VF} {a : List (List Opr)} {k : Nat} (h : k < a.length) : serV v (a.take (k + 1)) = ((doneV (serV v (a.take k)).1 a[k]).1, (serV v (a.take k)).2 ++ [(doneV (serV v (a.take k)).1 a[k]).2]) := by
  rw [List.take_succ_eq_append_getElem h, serV_append]; rfl
end Go.Proofs.YtmepmiokpcddbabGreatDoor

set_option linter.unusedVariables false
set_option linter.unusedSimpArgs false
namespace Go.Proofs.YtmepmiokpcddbabGreatDoor
open Go.RowKit

/-- what a step hands back: the new store in memory from block B on, and true; or false -/
def RetD (w : World) (B : Nat) (r : Option VF) (e : Ending) (w' : World) : Prop :=
  ∃ A c l ok, e = .returned (.tuple #[.slice A (l : List Pr).length c, .bool ok]) ∧ (match r with | some v => ok = true ∧ OV w' B A c l ∧ Ok l ∧ valOf l = v | none => ok = false) ∧ Below w.heap.size w w'

set_option maxHeartbeats 400000 in
set_option maxRecDepth 100000 in
theorem dget_any (A : Option Addr) (c : Nat) (l : List Pr) (key : ByteArray) (w : World) (hA : SV w A c l) (h : Ok l) (hk : keyB key = true) :
    Calls Tryz.prog 171 #[.slice A l.length c, .string key] w fun e w' => e = .returned (.int .i64 (valOf l key)) ∧ Below w.heap.size w w' := by
  go_enter Tryz.func171, Tryz.ntmps171
  go_wp2_with fail
  refine (get_ok A c l key _ hA (by have := h.small; omega) h hk).mono ?_
  rintro e w' ⟨rfl, hb⟩
  go_wp2_with fail
  go_ret
  exact ⟨rfl, hb⟩

set_option maxHeartbeats 400000 in
set_option maxRecDepth 100000 in
theorem dput_any (A : Option Addr) (c : Nat) (l : List Pr) (key : ByteArray) (n : Int) (w : World) (hA : SV w A c l) (h : Ok l) (hk : keyB key = true) :
    Calls Tryz.prog 170 #[.slice A l.length c, .string key, .int .i64 n] w (RetD w w.heap.size (putV (valOf l) key n)) := by
  cases hn : valB n
  · have HR := hideP (show putV (valOf l) key n = none by simp [putV, hn])
    go_enter Tryz.func170, Tryz.ntmps170
    go_wp2_with fail
    refine (put_nv A c l key n _ hA h hk hn).mono ?_
    rintro e w' ⟨rfl, hb⟩
    go_wp2_with fail
    go_ret2
    refine ⟨none, 0, [], false, rfl, ?_, hb⟩
    rw [HR.out]
  · have HR := hideP (show putV (valOf l) key n = some (upd (valOf l) key n) by simp [putV, hn])
    go_enter Tryz.func170, Tryz.ntmps170
    go_wp2_with fail
    refine (put_st A c l key n _ hA h hk hn).mono ?_
    rintro e w' ⟨A', c', l', rfl, hsv, hok, hv, hb, ho⟩
    have HV := hideP hv
    clear hv hsv
    go_wp2_with fail
    go_ret2
    refine ⟨A', c', l', true, rfl, ?_, hb⟩
    rw [HR.out]
    exact ⟨rfl, ho, hok, HV.out⟩

set_option maxHeartbeats 400000 in
set_option maxRecDepth 100000 in
theorem put_via (A : Option Addr) (c : Nat) (l : List Pr) (key : ByteArray) (n : Int) (w : World) (hA : SV w A c l) (h : Ok l) (hk : keyB key = true) (hn : valB n = true) :
    Calls Tryz.prog 170 #[.slice A l.length c, .string key, .int .i64 n] w fun e w' => ∃ A' c' l', e = .returned (.tuple #[.slice A' (l' : List Pr).length c', .bool true]) ∧ SV w' A' c' l' ∧ Ok l' ∧ valOf l' = upd (valOf l) key n ∧ Below w.heap.size w w' := by
  refine (dput_any A c l key n w hA h hk).mono ?_
  rintro e w' ⟨A', c', l', ok, rfl, hr, hb⟩
  rw [show putV (valOf l) key n = some (upd (valOf l) key n) by simp [putV, hn]] at hr
  obtain ⟨rfl, ho, hok, hv⟩ := hr
  exact ⟨A', c', l', rfl, ho.sv, hok, hv, hb⟩

set_option maxHeartbeats 400000 in
set_option maxRecDepth 100000 in
theorem dmove_any (A : Option Addr) (c : Nat) (l : List Pr) (o : Opr) (w : World) (hA : SV w A c l) (h : Ok l) (hk : keyB o.key = true) (hs : keyB o.src = true) (hn : valB o.n = true) (h0 : 0 ≤ o.n) :
    Calls Tryz.prog 172 #[.slice A l.length c, opV o] w (RetD w w.heap.size (moveV (valOf l) o)) := by
  have hv := valB_iff.1 (h.vb o.src)
  have hn' := valB_iff.1 hn
  have hr : ∀ x, valOf l o.src = x → moveV (valOf l) o = if x < o.n then none else putV (upd (valOf l) o.src (x - o.n)) o.key (upd (valOf l) o.src (x - o.n) o.key + o.n) := by rintro x rfl; rfl
  obtain ⟨kd, key, src, n⟩ := o
  unfold opV
  simp only at hk hs hn hn' h0 hv hr ⊢
  have hr' := hideP hr
  clear hr
  have hb0 := (Below.refl w.heap.size w).alloc (Nat.le_refl _) (.cells #[.int .i64 kd, .string key, .string src, .int .i64 n] 93)
  have hA0 := hA.below hb0
  have hwa : (w.alloc (.cells #[.int .i64 kd, .string key, .string src, .int .i64 n] 93)).heap.size = w.heap.size + 1 := by simp
  clear hA
  go_enter Tryz.func172, Tryz.ntmps172
  go_wp2_with fail
  refine (dget_any A c l src _ hA0 h hs).mono ?_
  rintro e w1 ⟨rfl, hb1⟩
  generalize hx : valOf l src = x at hv ⊢
  have HX := hideP hx
  clear hx
  have hb2 := hb0.trans (hb1.mono hb0.size)
  have hA1 := hA0.below hb1
  have q1 := hb1.cell (p := ⟨w.heap.size, 0, none⟩) (by simp)
  have q2 := hb1.cell (p := ⟨w.heap.size, 0 + 1, none⟩) (by simp)
  have q3 := hb1.cell (p := ⟨w.heap.size, 0 + 2, none⟩) (by simp)
  have q4 := hb1.cell (p := ⟨w.heap.size, 0 + 3, none⟩) (by simp)
  simp at q1 q2 q3 q4
  by_cases hlt : x < n
  · have HL := hideP hlt
    go_wp2_with fail
    go_ret2
    refine ⟨none, 0, [], false, rfl, ?_, hb2⟩
    rw [hr'.out x HX.out, if_pos HL.out]
  · have HL := hideP hlt
    have hxn : valB (x - n) = true := valB_iff.2 (by omega)
    go_wp2_with fail
    refine (put_via A c l src (x - n) _ hA1 h hs hxn).mono ?_
    rintro e w3 ⟨A3, c3, l3, rfl, hA3, hok3, hv3, hb3⟩
    have hy := valB_iff.1 (hok3.vb key)
    have HV3 := hideP hv3
    clear hv3
    have hsz1 := hb1.size
    have g2 := (hb3.cell (p := ⟨w.heap.size, 1, none⟩) (by simp at hsz1 ⊢; omega)).trans q2
    have g4 := (hb3.cell (p := ⟨w.heap.size, 3, none⟩) (by simp at hsz1 ⊢; omega)).trans q4
    have hb4 := hb2.trans (hb3.mono hb2.size)
    have hsz4 := hb3.size
    have hlt4 : w.heap.size < w3.heap.size := by simp at hsz1; omega
    clear hb0 hb1 hb2 hb3 hA0 hA1 q1 q2 q3 q4 hwa hsz1 hsz4
    generalize hgy : valOf l3 key = y at hy
    have hget : ∀ W, SV W A3 c3 l3 → Calls Tryz.prog 171 #[.slice A3 l3.length c3, .string key] W fun e w' => e = .returned (.int .i64 y) ∧ Below W.heap.size W w' := fun W hW => hgy ▸ dget_any A3 c3 l3 key W hW hok3 hk
    have HY := hideP hgy
    clear hgy
    go_wp2_with fail
    have hput : ∀ W, SV W A3 c3 l3 → Calls Tryz.prog 170 #[.slice A3 l3.length c3, .string key, .int .i64 (IntKind.i64.wrap (y + n))] W (RetD W W.heap.size (putV (valOf l3) key (y + n))) := fun W hW => by
      rw [show IntKind.i64.wrap (y + n) = y + n by simp only [IntKind.wrap_i64]; omega]
      exact dput_any A3 c3 l3 key (y + n) W hW hok3 hk
    have k3 : w3.drew.cell? ⟨w.heap.size, 1, none⟩ = some (.string key) ∧ w3.drew.cell? ⟨w.heap.size, 3, none⟩ = some (.int .i64 n) := ⟨g2, g4⟩
    have hA3d := hA3.below ((Below.refl _ _).drew)
    have hlt3 : w.heap.size < w3.drew.heap.size := hlt4
    clear g2 g4 hA3 hlt4
    go_region_held3 (fun w' => w'.cell? ⟨w.heap.size, 1, none⟩ = some (.string key) ∧ w'.cell? ⟨w.heap.size, 3, none⟩ = some (.int .i64 n)) (with_reducible first | exact k3 | exact k5 | exact k6) (first
      | (go_at_call 171; refine (hget _ ?_).mono ?_; exact hA3d; rintro e w5 ⟨rfl, hb5⟩; have k5 := And.intro ((hb5.cell (p := ⟨w.heap.size, 1, none⟩) hlt3).trans k3.1) ((hb5.cell (p := ⟨w.heap.size, 3, none⟩) hlt3).trans k3.2); have hA5 := hA3d.below hb5; have hlt5 : w.heap.size < w5.heap.size := Nat.lt_of_lt_of_le hlt3 hb5.size)
      | (go_at_call 170; refine (hput _ ?_).mono ?_; exact hA5; rintro e w6 ⟨A6, c6, l6, ok6, rfl, hr6, hb6⟩; have k6 := And.intro ((hb6.cell (p := ⟨w.heap.size, 1, none⟩) hlt5).trans k5.1) ((hb6.cell (p := ⟨w.heap.size, 3, none⟩) hlt5).trans k5.2)))
    have HR6 := hideP hr6
    clear hr6
    have hb7 : Below w.heap.size w w5 := hb4.drew.trans (hb5.mono hb4.size)
    have hb8 : Below w.heap.size w w6 := hb7.trans (hb6.mono hb7.size)
    go_wp2_with fail
    go_ret2
    refine ⟨A6, c6, l6, ok6, rfl, ?_, hb8⟩
    have e : upd (valOf l) src (x - n) key = y := by rw [← HV3.out]; exact HY.out
    rw [hr'.out x HX.out, if_neg (by have := HL.out; omega), e, ← HV3.out]
    have := HR6.out
    revert this
    cases putV (valOf l3) key (y + n) with
    | none => exact id
    | some v => exact fun ⟨a, b, d⟩ => ⟨a, b.mono hb7.size, d⟩
end Go.Proofs.YtmepmiokpcddbabGreatDoor

set_option linter.unusedVariables false
set_option linter.unusedSimpArgs false
namespace Go.Proofs.YtmepmiokpcddbabGreatDoor
open Go.RowKit

/-- the cells of an operation that was handed over -/
structure OpAt (w : World) (b : Nat) (o : Opr) : Prop where
  lt : b < w.heap.size
  kind : w.cell? ⟨b, 0, none⟩ = some (.int .i64 o.kind)
  key : w.cell? ⟨b, 1, none⟩ = some (.string o.key)
  src : w.cell? ⟨b, 2, none⟩ = some (.string o.src)
  n : w.cell? ⟨b, 3, none⟩ = some (.int .i64 o.n)
theorem OpAt.below {w w' : World} {b : Nat} {o : Opr} (h : OpAt w b o) (hb : Below w.heap.size w w') : OpAt w' b o :=
  ⟨Nat.lt_of_lt_of_le h.lt hb.size, (hb.cell (p := ⟨b, 0, none⟩) h.lt).trans h.kind, (hb.cell (p := ⟨b, 1, none⟩) h.lt).trans h.key, (hb.cell (p := ⟨b, 2, none⟩) h.lt).trans h.src, (hb.cell (p := ⟨b, 3, none⟩) h.lt).trans h.n⟩
theorem OpAt.drew {w : World} {b : Nat} {o : Opr} (h : OpAt w b o) : OpAt w.drew b o := ⟨h.lt, h.kind, h.key, h.src, h.n⟩
theorem OpAt.new (w : World) (o : Opr) (t : TypeId) : OpAt (w.alloc (.cells #[.int .i64 o.kind, .string o.key, .string o.src, .int .i64 o.n] t)) w.heap.size o :=
  ⟨by simp, by simp, by simp, by simp, by simp⟩

theorem OpAt.grown {w w' : World} {b : Nat} {o : Opr} (h : OpAt w b o) {row : Option Nat} (hg : w.grownBy w' row) (hne : some b ≠ row) : OpAt w' b o :=
  ⟨Nat.lt_of_lt_of_le h.lt hg.size, hg.cell h.kind hne, hg.cell h.key hne, hg.cell h.src hne, hg.cell h.n hne⟩
end Go.Proofs.YtmepmiokpcddbabGreatDoor

set_option linter.unusedVariables false
set_option linter.unusedSimpArgs false
namespace Go.Proofs.YtmepmiokpcddbabGreatDoor
open Go.RowKit

theorem RetD.mono {w : World} {B B' : Nat} {r : Option VF} {e : Ending} {w' : World} (h : RetD w B r e w') (hB : B' ≤ B) : RetD w B' r e w' := by
  obtain ⟨A, c, l, ok, he, hr, hb⟩ := h
  refine ⟨A, c, l, ok, he, ?_, hb⟩
  revert hr
  cases r with
  | none => exact id
  | some v => exact fun ⟨a, b, d⟩ => ⟨a, b.mono hB, d⟩
theorem RetD.from_ {w0 w : World} {B : Nat} {r : Option VF} {e : Ending} {w' : World} (h : RetD w B r e w') (hb : Below w0.heap.size w0 w) : RetD w0 B r e w' := by
  obtain ⟨A, c, l, ok, he, hr, hb'⟩ := h
  exact ⟨A, c, l, ok, he, hr, hb.trans (hb'.mono hb.size)⟩
set_option maxHeartbeats 400000 in
set_option maxRecDepth 100000 in
theorem step_any (B : Nat) (A : Option Addr) (c : Nat) (l : List Pr) (o : Opr) (w : World) (hO : OV w B A c l) (hB : B ≤ w.heap.size) (h : Ok l) (ho : chkO o = 0) :
    Calls Tryz.prog 132 #[.slice A l.length c, opV o] w (RetD w B (stepV (valOf l) o)) := by
  obtain ⟨h1, h5, hk, hs, hv, hn⟩ := chkO_zero.1 ho
  have hA := hO.sv
  obtain ⟨kd, key, src, n⟩ := o
  have hat := OpAt.new w ⟨kd, key, src, n⟩ 93
  unfold opV
  simp only at h1 h5 hk hs hv hn hat ⊢
  have hb0 := (Below.refl w.heap.size w).alloc (Nat.le_refl _) (.cells #[.int .i64 kd, .string key, .string src, .int .i64 n] 93)
  have hA0 := hA.below hb0
  have hO0 := hO.below hb0
  clear hA hO ho
  rcases (show kd = 1 ∨ kd = 2 ∨ kd = 3 ∨ kd = 4 ∨ kd = 5 by omega) with rfl | rfl | rfl | rfl | rfl
  · have HR := hideP (show stepV (valOf l) ⟨1, key, src, n⟩ = putV (valOf l) key n by simp [stepV])
    clear hv hn hs
    go_enter Tryz.func132, Tryz.ntmps132
    go_wp2_with fail
    refine (dput_any A c l key n _ hA0 h hk).mono ?_
    intro e w1 hr
    obtain ⟨A1, c1, l1, ok1, rfl, hr1, hb1⟩ := (hr.mono (Nat.le_trans hB hb0.size)).from_ hb0
    have HR1 := hideP hr1
    clear hr1 hr
    go_wp2_with fail
    go_ret2
    refine ⟨A1, c1, l1, ok1, rfl, ?_, hb1⟩
    rw [HR.out]
    exact HR1.out
  · have hy := valB_iff.1 (h.vb key)
    have hn' := valB_iff.1 (hv (by decide))
    generalize hgy : valOf l key = y at hy
    have HR := hideP (show stepV (valOf l) ⟨2, key, src, n⟩ = putV (valOf l) key (y + n) by simp [stepV, hgy])
    have hget : ∀ W, SV W A c l → Calls Tryz.prog 171 #[.slice A l.length c, .string key] W fun e w' => e = .returned (.int .i64 y) ∧ Below W.heap.size W w' := fun W hW => hgy ▸ dget_any A c l key W hW h hk
    have hput : ∀ W, SV W A c l → Calls Tryz.prog 170 #[.slice A l.length c, .string key, .int .i64 (IntKind.i64.wrap (y + n))] W (RetD W W.heap.size (putV (valOf l) key (y + n))) := fun W hW => by
      rw [show IntKind.i64.wrap (y + n) = y + n by simp only [IntKind.wrap_i64]; omega]
      exact dput_any A c l key (y + n) W hW h hk
    clear hv hn hs hgy
    go_enter Tryz.func132, Tryz.ntmps132
    go_wp2_with fail
    generalize w.alloc (.cells #[.int .i64 2, .string key, .string src, .int .i64 n] 93) = w0 at hat hb0 hA0 hO0 ⊢
    have k0 := And.intro hat.drew.key hat.drew.n
    have hAd := hA0.below ((Below.refl _ _).drew)
    have hatd := hat.drew
    simp only at k0
    go_region_held3 (fun w' => w'.cell? ⟨w.heap.size, 1, none⟩ = some (.string key) ∧ w'.cell? ⟨w.heap.size, 3, none⟩ = some (.int .i64 n)) (with_reducible first | exact k0 | exact k5 | exact k6) (first
      | (go_at_call 171; refine (hget _ ?_).mono ?_; exact hAd; rintro e w5 ⟨rfl, hb5⟩; have hat5 := hatd.below hb5; have k5 := And.intro hat5.key hat5.n; simp only at k5; have hA5 := hAd.below hb5)
      | (go_at_call 170; refine (hput _ ?_).mono ?_; exact hA5; rintro e w6 ⟨A6, c6, l6, ok6, rfl, hr6, hb6⟩; have hat6 := hat5.below hb6; have k6 := And.intro hat6.key hat6.n; simp only at k6))
    have hb7 : Below w.heap.size w w5 := hb0.drew.trans (hb5.mono hb0.size)
    have hb8 : Below w.heap.size w w6 := hb7.trans (hb6.mono hb7.size)
    have HR6 := hideP (RetD.mono (B' := B) ⟨A6, c6, l6, ok6, rfl, hr6, hb6⟩ (Nat.le_trans hB hb7.size))
    clear hr6
    go_wp2_with fail
    go_ret2
    rw [HR.out]
    exact HR6.out.from_ hb7
  · have hsk := (hs (by decide)).1
    have HR := hideP (show stepV (valOf l) ⟨3, key, src, n⟩ = putV (valOf l) key (valOf l src) by simp [stepV])
    clear hv hn hs
    go_enter Tryz.func132, Tryz.ntmps132
    go_wp2_with fail
    generalize w.alloc (.cells #[.int .i64 3, .string key, .string src, .int .i64 n] 93) = w0 at hat hb0 hA0 hO0 ⊢
    have k0 := And.intro hat.drew.key hat.drew.src
    have hAd := hA0.below ((Below.refl _ _).drew)
    have hatd := hat.drew
    simp only at k0
    go_region_held3 (fun w' => w'.cell? ⟨w.heap.size, 1, none⟩ = some (.string key) ∧ w'.cell? ⟨w.heap.size, 2, none⟩ = some (.string src)) (with_reducible first | exact k0 | exact k5 | exact k6) (first
      | (go_at_call 171; refine (dget_any A c l src _ ?_ h hsk).mono ?_; exact hAd; rintro e w5 ⟨rfl, hb5⟩; have hat5 := hatd.below hb5; have k5 := And.intro hat5.key hat5.src; simp only at k5; have hA5 := hAd.below hb5)
      | (go_at_call 170; refine (dput_any A c l key (valOf l src) _ ?_ h hk).mono ?_; exact hA5; rintro e w6 ⟨A6, c6, l6, ok6, rfl, hr6, hb6⟩; have hat6 := hat5.below hb6; have k6 := And.intro hat6.key hat6.src; simp only at k6))
    have hb7 : Below w.heap.size w w5 := hb0.drew.trans (hb5.mono hb0.size)
    have hb8 : Below w.heap.size w w6 := hb7.trans (hb6.mono hb7.size)
    have HR6 := hideP (RetD.mono (B' := B) ⟨A6, c6, l6, ok6, rfl, hr6, hb6⟩ (Nat.le_trans hB hb7.size))
    clear hr6
    go_wp2_with fail
    go_ret2
    rw [HR.out]
    exact HR6.out.from_ hb7
  · have HR := hideP (show ∀ x, valOf l key = x → stepV (valOf l) ⟨4, key, src, n⟩ = if n ≤ x then some (valOf l) else none by rintro x rfl; simp [stepV])
    clear hv hn hs
    go_enter Tryz.func132, Tryz.ntmps132
    go_wp2_with fail
    generalize w.alloc (.cells #[.int .i64 4, .string key, .string src, .int .i64 n] 93) = w0 at hat hb0 hA0 hO0 ⊢
    have k0 := And.intro hat.drew.key hat.drew.n
    have hAd := hA0.below ((Below.refl _ _).drew)
    have hOd := hO0.below ((Below.refl _ _).drew)
    have hatd := hat.drew
    simp only at k0
    go_region_held3 (fun w' => w'.cell? ⟨w.heap.size, 1, none⟩ = some (.string key) ∧ w'.cell? ⟨w.heap.size, 3, none⟩ = some (.int .i64 n)) (with_reducible first | exact k0 | exact k5) (first
      | (go_at_call 171; refine (dget_any A c l key _ ?_ h hk).mono ?_; exact hAd; rintro e w5 ⟨rfl, hb5⟩; have hat5 := hatd.below hb5; have k5 := And.intro hat5.key hat5.n; simp only at k5; have hA5 := hAd.below hb5))
    have hb7 : Below w.heap.size w w5 := hb0.drew.trans (hb5.mono hb0.size)
    have hO5 := hOd.below hb5
    go_wp2_with fail
    go_ret2
    by_cases hx : n ≤ valOf l key
    · exact ⟨A, c, l, true, by simp [hx], by rw [HR.out _ rfl, if_pos hx]; exact ⟨rfl, hO5, h, rfl⟩, hb7⟩
    · exact ⟨A, c, l, false, by simp [hx], by rw [HR.out _ rfl, if_neg hx], hb7⟩
  · have hsk := (hs (by decide)).1
    have hnv := hv (by decide)
    have hn0 := hn (by decide)
    have HR := hideP (show stepV (valOf l) ⟨5, key, src, n⟩ = moveV (valOf l) ⟨5, key, src, n⟩ by simp [stepV])
    clear hv hn hs
    go_enter Tryz.func132, Tryz.ntmps132
    go_wp2_with fail
    refine (dmove_any A c l ⟨5, key, src, n⟩ _ hA0 h hk hsk hnv hn0).mono ?_
    intro e w1 hr
    obtain ⟨A1, c1, l1, ok1, rfl, hr1, hb1⟩ := (hr.mono (Nat.le_trans hB hb0.size)).from_ hb0
    have HR1 := hideP hr1
    clear hr1 hr
    go_wp2_with fail
    go_ret2
    refine ⟨A1, c1, l1, ok1, rfl, ?_, hb1⟩
    rw [HR.out]
    exact HR1.out
end Go.Proofs.YtmepmiokpcddbabGreatDoor
