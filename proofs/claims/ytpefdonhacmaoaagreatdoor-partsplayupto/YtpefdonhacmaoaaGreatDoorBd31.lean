/-
  rolaw.at, rolaw.pick at transactions.
  rolaw.pick at partition maps.
  sort.Slice of pairs by their keys, as roref.List calls it.
-/
import Derived.Test.YtpefdonhacmaoaaGreatDoorBd3
import Derived.Test.YtpefdonhacmaoaaGreatDoorBd28
import Derived.Test.YtpefdonhacmaoaaGreatDoorBd30
import Derived.Test.YtpefdonhacmaoaaGreatDoorBd4
import Derived.Test.YtpefdonhacmaoaaGreatDoorBd24
import Derived.Test.YtpefdonhacmaoaaGreatDoorBd7
import Derived.Test.YtpefdonhacmaoaaGreatDoorBd1
import Derived.Shelf.GgSortFunc.Tiny
import Derived.WalkKit
import Derived.WalkSpells
import Derived.WalkLawsBesides
import Derived.Deep.QuietTactic
import Derived.BigQuiet
set_option linter.unusedVariables false
set_option linter.unusedSimpArgs false
namespace Go.Proofs.YtpefdonhacmaoaaGreatDoor
open Go.RowKit

theorem cell_alloc_ {w : World} {b o : Nat} {v : Value} (hb : b < w.heap.size) (hc : w.cell? ⟨b, o, none⟩ = some v) (x : Obj) : (w.alloc x).cell? ⟨b, o, none⟩ = some v := (((Below.refl w.heap.size w).alloc (Nat.le_refl _) x).cell hb).trans hc
/-- one row of a slice of slices of ints -/
structure Cl where
  A : Option Addr
  c : Nat
  zs : List Int
def clV (x : Cl) : Value := .slice x.A x.zs.length x.c
/-- a slice of slices of ints -/
structure LS (w : World) (A : Option Addr) (cs : List Cl) : Prop where
  vs : VS w A (cs.map clV)
  is_ : ∀ x ∈ cs, IS w x.A x.zs ∧ x.zs.length ≤ x.c ∧ x.c ≤ 9223372036854775807
theorem LS.below {w w' : World} {A : Option Addr} {cs : List Cl} (h : LS w A cs) (hb : Below w.heap.size w w') : LS w' A cs := ⟨h.vs.below hb, fun x hx => ⟨(h.is_ x hx).1.below hb, (h.is_ x hx).2⟩⟩

set_option maxHeartbeats 400000 in
set_option maxRecDepth 100000 in
theorem rat_any (A : Option Addr) (c : Nat) (zs : List Int) (i : Nat) (w : World) (hA : IS w A zs) (hl : zs.length ≤ 9223372036854775807) :
    Calls Tryz.prog 9 #[.slice A zs.length c, .int .i64 (i : Int)] w fun e w' => e = .returned (.int .i64 (zs.getD i 0)) ∧ w = w' := by
  by_cases h : i < zs.length
  · obtain ⟨b, o, rfl, hbl, q1⟩ := hA i _ (List.getElem?_eq_getElem h)
    have HV := hideP (show zs.getD i 0 = zs[i] by simp [List.getD_eq_getElem?_getD, h])
    generalize zs[i] = z at q1 HV
    have g1 : (i : Int) < (zs.length : Int) := by omega
    have g2 : (0 : Int) ≤ (i : Int) := by omega
    clear hA
    go_enter Tryz.func9, Tryz.ntmps9
    go_wp2_with fail
    go_ret
    exact ⟨ret_int HV.out.symm, rfl⟩
  · have HV := hideP (show zs.getD i 0 = 0 by simp [List.getD_eq_getElem?_getD, h])
    have g1 : ¬ (i : Int) < (zs.length : Int) := by omega
    clear hA
    go_enter Tryz.func9, Tryz.ntmps9
    go_wp2_with fail
    go_ret
    exact ⟨by first | exact ret_int HV.out.symm | exact ret_int rfl | rfl, rfl⟩

/-- a transaction is handed back -/
def RetDeed (w : World) (ds : List Dl) (e : Ending) (w' : World) : Prop := ∃ D c d, e = .returned (.agg #[.slice D (d : List Opr).length c]) ∧ (d = [] ∨ ∃ x ∈ ds, x.D = D ∧ x.d = d) ∧ Below w.heap.size w w'
theorem pick_ix (k : Int) (n : Nat) (h : 1 ≤ n) (h2 : n ≤ 9223372036854775807) : ∃ j : Nat, j < n ∧ wrap64 ((IntKind.u64.wrap k).tmod (n : Int)) = (j : Int) := by
  have h0 : 0 ≤ IntKind.u64.wrap k := by simp [IntKind.wrap_u64]; omega
  have h1 := Int.tmod_lt_of_pos (IntKind.u64.wrap k) (show (0 : Int) < n by omega)
  have h3 := Int.tmod_nonneg (n : Int) h0
  refine ⟨((IntKind.u64.wrap k).tmod n).toNat, by omega, ?_⟩
  unfold wrap64
  omega
set_option maxHeartbeats 400000 in
set_option maxRecDepth 100000 in
theorem pick_any (A : Option Addr) (c : Nat) (ds : List Dl) (k : Int) (w : World) (hA : DS w A ds) (hl : ds.length ≤ 9223372036854775807) :
    Calls Tryz.prog 10 #[.slice A ds.length c, .int .i64 k] w (RetDeed w ds) := by
  by_cases h : ds.length = 0
  · have g1 : ((ds.length : Int) == 0) = true := by simp [h]
    clear hA
    go_enter Tryz.func10, Tryz.ntmps10
    go_wp2_with fail
    have hb := ((Below.refl w.heap.size w).alloc (Nat.le_refl _) (.cells #[.slice none 0 0] 43)).alloc (by simp) (.cells #[.slice none 0 0] 43)
    have q0 : ((w.alloc (.cells #[.slice none 0 0] 43)).alloc (.cells #[.slice none 0 0] 43)).cell? ⟨w.heap.size, 0, none⟩ = some (.slice none 0 0) := cell_alloc_ (by simp) (by simp) _
    refine bodyPost_ret (v := .agg #[.slice none 0 0]) (by simp [results, Tryz.results10, go_sem, q0]) rfl ?_
    exact ⟨none, 0, [], rfl, .inl rfl, hb⟩
  · have g1 : ((ds.length : Int) == 0) = false := by simp [h]
    obtain ⟨j, hj, hjk⟩ := pick_ix k ds.length (by omega) hl
    obtain ⟨⟨b, o, rfl, hbl, q1⟩, hos⟩ := hA.at_ hj
    have HM := hideP (List.getElem_mem hj)
    generalize ds[j] = x at q1 hos HM
    obtain ⟨Dx, cx, dx⟩ := x
    simp only [dlV] at q1 hos
    have hb := ((Below.refl w.heap.size w).alloc (Nat.le_refl _) (.cells #[.slice Dx dx.length cx] 43)).alloc (by simp) (.cells #[.slice none 0 0] 43)
    have q0 : ((w.alloc (.cells #[.slice Dx dx.length cx] 43)).alloc (.cells #[.slice none 0 0] 43)).cell? ⟨w.heap.size, 0, none⟩ = some (.slice Dx dx.length cx) := cell_alloc_ (by simp) (by simp) _
    clear hA
    go_enter Tryz.func10, Tryz.ntmps10
    go_wp2_with fail
    refine bodyPost_ret (v := .agg #[.slice Dx dx.length cx]) (by simp [results, Tryz.results10, go_sem, q0]) rfl ?_
    exact ⟨Dx, cx, dx, rfl, .inr ⟨_, HM.out, rfl, rfl⟩, hb⟩
end Go.Proofs.YtpefdonhacmaoaaGreatDoor

set_option linter.unusedVariables false
set_option linter.unusedSimpArgs false
namespace Go.Proofs.YtpefdonhacmaoaaGreatDoor
open Go.RowKit

/-- a slice of maps -/
structure MSs (w : World) (M : Option Addr) (ms : List Mp) : Prop where
  cell : ∀ (i : Nat) (m : Mp), ms[i]? = some m → ∃ b o, M = some ⟨b, o, none⟩ ∧ b < w.heap.size ∧ w.cell? ⟨b, o + i * 2, none⟩ = some (.slice m.A m.cs.length m.ca) ∧ w.cell? ⟨b, o + i * 2 + 1, none⟩ = some (.slice m.O m.os.length m.co)
  ms : ∀ m ∈ ms, MS w m
theorem MSs.below {w w' : World} {M : Option Addr} {ms : List Mp} (h : MSs w M ms) (hb : Below w.heap.size w w') : MSs w' M ms := ⟨fun i m hi => by
  obtain ⟨b, o, e, hlt, c1, c2⟩ := h.cell i m hi
  exact ⟨b, o, e, Nat.lt_of_lt_of_le hlt hb.size, (hb.cell hlt).trans c1, (hb.cell hlt).trans c2⟩, fun m hm => (h.ms m hm).below hb⟩
def nilM : Mp := ⟨none, 0, [], none, 0, []⟩
/-- a map is handed back -/
def RetPm (w : World) (ms : List Mp) (e : Ending) (w' : World) : Prop := ∃ m : Mp, e = .returned (.agg #[.slice m.A m.cs.length m.ca, .slice m.O m.os.length m.co]) ∧ (m = nilM ∨ m ∈ ms) ∧ Below w.heap.size w w'

set_option maxHeartbeats 400000 in
set_option maxRecDepth 100000 in
theorem pickM_any (A : Option Addr) (c : Nat) (ms : List Mp) (k : Int) (w : World) (hA : MSs w A ms) (hl : ms.length ≤ 9223372036854775807) :
    Calls Tryz.prog 11 #[.slice A ms.length c, .int .i64 k] w (RetPm w ms) := by
  by_cases h : ms.length = 0
  · have g1 : ((ms.length : Int) == 0) = true := by simp [h]
    clear hA
    go_enter Tryz.func11, Tryz.ntmps11
    go_wp2_with fail
    have hb := ((Below.refl w.heap.size w).alloc (Nat.le_refl _) (.cells #[.slice none 0 0, .slice none 0 0] 25)).alloc (by simp) (.cells #[.slice none 0 0, .slice none 0 0] 25)
    have x := (Box.new w 25 #[.slice none 0 0, .slice none 0 0]).alloc (.cells #[.slice none 0 0, .slice none 0 0] 25)
    have q0 := x.cell 0 (v := .slice none 0 0) rfl
    have q1 := x.cell 1 (v := .slice none 0 0) rfl
    refine bodyPost_ret (v := .agg #[.slice none 0 0, .slice none 0 0]) (by simp [results, Tryz.results11, go_sem, q0, q1]) rfl ?_
    exact ⟨nilM, rfl, .inl rfl, hb⟩
  · have g1 : ((ms.length : Int) == 0) = false := by simp [h]
    obtain ⟨j, hj, hjk⟩ := pick_ix k ms.length (by omega) hl
    obtain ⟨b, o, rfl, hbl, q1, q2⟩ := hA.cell j _ (List.getElem?_eq_getElem hj)
    have hmem := List.getElem_mem hj
    generalize ms[j] = m at q1 q2 hmem
    have hb := ((Below.refl w.heap.size w).alloc (Nat.le_refl _) (.cells #[.slice m.A m.cs.length m.ca, .slice m.O m.os.length m.co] 25)).alloc (by simp) (.cells #[.slice none 0 0, .slice none 0 0] 25)
    have x := (Box.new w 25 #[.slice m.A m.cs.length m.ca, .slice m.O m.os.length m.co]).alloc (.cells #[.slice none 0 0, .slice none 0 0] 25)
    have r0 := x.cell 0 (v := .slice m.A m.cs.length m.ca) rfl
    have r1 := x.cell 1 (v := .slice m.O m.os.length m.co) rfl
    have HM := hideP hmem
    clear hA hmem x
    go_enter Tryz.func11, Tryz.ntmps11
    go_wp2_with fail
    refine bodyPost_ret (v := .agg #[.slice m.A m.cs.length m.ca, .slice m.O m.os.length m.co]) (by simp [results, Tryz.results11, go_sem, r0, r1]) rfl ?_
    exact ⟨m, rfl, .inr HM.out, hb⟩
end Go.Proofs.YtpefdonhacmaoaaGreatDoor

set_option linter.unusedVariables false
set_option linter.unusedSimpArgs false
namespace Go.Proofs.YtpefdonhacmaoaaGreatDoor
open Go.RowKit Go.Shelf Go.Sort

def encP (p : Pr) : List Value := [.string p.1, .int .i64 p.2]
def ltP (p q : Pr) : Bool := ltB p.1 q.1
theorem swo_ltP : SWO ltP where
  irrefl := fun x => ltB_irrefl _
  trans := fun x y z h1 h2 => ltB_trans h1 h2
  ntrans := fun x y z h1 h2 => by
    unfold ltP at *
    cases h : ltB x.1 z.1
    · rfl
    · cases h3 : ltB z.1 y.1
      · have e := ltB_total h2 h3
        rw [← e, h1] at h; cases h
      · have := ltB_trans h h3
        rw [h1] at this; cases this

noncomputable def svT : TypeInfo := (Tryz.prog.info? 26).get (by kernel_rfl)
noncomputable def svE : TypeInfo := (Tryz.prog.info? 55).get (by kernel_rfl)
theorem svK (n : Nat) (h2 : 2 ≤ n) : Lib.swapperK n svE 25 = 9 := by
  have a : svE.hasPointers = true := by kernel_rfl
  have b : svE.bytes = 24 := by kernel_rfl
  have c : (n == 0) = false := by simp; omega
  have d : (n == 1) = false := by simp; omega
  simp [Lib.swapperK, a, b, c, d]

set_option maxHeartbeats 1000000 in
theorem less_any (blk c Bs size : Nat) (W : World) (G : Nat → ByteArray) (hs : W.cell? ⟨Bs, 0, none⟩ = some (.slice (some ⟨blk, 0, none⟩) size c))
    (hc : ∀ t, t < size → W.cell? ⟨blk, t * 2, none⟩ = some (.string (G t))) (i j : Nat) (hi : i < size) (hj : j < size) (_hsz : size < 4611686018427387904) :
    Calls Tryz.prog 39 #[.int .i64 i, .int .i64 j, .pointer (some ⟨Bs, 0, none⟩)] W fun e w' => e = .returned (.bool (ltB (G i) (G j))) ∧ ∃ q, w' = W.drewN q := by
  have ci := hc i hi
  have cj := hc j hj
  clear hc
  generalize G i = gi at ci
  generalize G j = gj at cj
  go_enter Tryz.func39, Tryz.ntmps39
  go_wp2
  go_quiet (fail)
  go_wp2
  go_ret
  exact ⟨rfl, nq, rfl⟩

theorem holdsP {w : World} {g : Nat} {cur : Array Value} {e : TypeId} {xs : List Pr} (hb : w.heap[g]? = some (.cells cur e (0, 0))) (ht : cur.toList.take (xs.length * 2) = cellsOf xs) : HoldsK encP 2 w g 0 xs.toArray := by
  intro j hj
  rw [size_flatK] at hj
  have hj' : j < xs.length * 2 := by simpa using hj
  refine ⟨?_, by simp [World.frozen?, hb]⟩
  rw [get_flatK _ _ _ _ hj]
  have h1 : (cur.toList.take (xs.length * 2))[j]? = (cellsOf xs)[j]? := by rw [ht]
  rw [List.getElem?_take_of_lt hj'] at h1
  simp only [World.cell?, hb, Nat.zero_add]
  have hi : j / 2 < xs.length := by omega
  have hg := cellsOf_get xs (j / 2) _ (List.getElem?_eq_getElem hi)
  have e1 : cur[j]? = (cellsOf xs)[j]? := by rw [← h1]; simp
  rw [e1]
  have e2 : xs.toArray[j / 2]! = xs[j / 2] := by simp [hi]
  rw [e2]
  rcases Nat.mod_two_eq_zero_or_one j with hm | hm
  · have : j / 2 * 2 = j := by omega
    rw [this] at hg
    rw [hm, hg.1]; rfl
  · have : j / 2 * 2 + 1 = j := by omega
    rw [this] at hg
    rw [hm, hg.2]; rfl

/-- what the sort leaves -/
def Sorted (w : World) (blk : Nat) (xs : List Pr) (e : Ending) (w' : World) : Prop :=
  e = .returned (.tuple #[]) ∧ ∃ ys : List Pr, ys.Perm xs ∧ ys.Pairwise (fun p q => ltB q.1 p.1 = false) ∧ PS w' w'.heap.size (some ⟨blk, 0, none⟩) ys ∧ w.grownBy w' (some blk)

theorem sort_many (blk c Bs : Nat) (xs : List Pr) (h2 : 2 ≤ xs.length) (hsz : xs.length < 4611686018427387904) (w : World) (hH : HoldsK encP 2 w blk 0 xs.toArray) (hblk : blk < w.heap.size)
    (hBs : w.cell? ⟨Bs, 0, none⟩ = some (.slice (some ⟨blk, 0, none⟩) xs.length c)) (hB1 : Bs < w.heap.size) (hB2 : Bs ≠ blk) :
    Calls Tryz.prog 38 #[.iface 26 (.slice (some ⟨blk, 0, none⟩) xs.length c), .func (.func 39) #[] #[.pointer (some ⟨Bs, 0, none⟩)]] w (Sorted w blk xs) := by
  have hless : LessReadsK Tryz.prog 39 #[.pointer (some ⟨Bs, 0, none⟩)] encP 2 ltP blk 0 xs.toArray.size w := by
    intro m os dk hs i j hi hj
    have e : sortWorldK encP 2 w blk 0 m dk os = putRowK encP 2 (grow (Sort.ahead w m) os) blk 0 dk := by
      unfold sortWorldK; rw [putRowK_grow _ _ (Sort.ahead w m) _ blk 0 _ hblk]
    have hHg : HoldsK encP 2 (grow (Sort.ahead w m) os) blk 0 xs.toArray := holdsK_grow _ _ _ _ blk 0 _ hblk (holdsK_ahead _ _ _ _ _ _ _ hH)
    refine less_any blk c Bs xs.toArray.size _ (fun t => dk[t]!.1) ?_ (fun t ht => ?_) i j hi hj (by simpa using hsz)
    · rw [e, cell?_putRowK_other _ _ _ blk 0 dk _ (by exact hB2), cell?_grow _ _ _ (by exact hB1)]; exact hBs
    · rw [e]
      have := ((holdsK_putRowK _ _ _ blk 0 xs.toArray dk hHg hs).cell (i := t) (c := 0) (by omega) (by omega)).1
      simpa [encP] using this
  have hS := Any.sort_Slice_cells_sorted Tryz.sv6 26 55 svT svE (by kernel_rfl) (by kernel_rfl) (by kernel_rfl) (by kernel_rfl) 25 (fun _ => by kernel_rfl) encP 2 (fun _ => rfl) (by kernel_rfl) (fun _ => by kernel_rfl)
    (fun x v hv => by simp [encP] at hv; rcases hv with rfl | rfl <;> rfl) ltP swo_ltP 39 #[.pointer (some ⟨Bs, 0, none⟩)]
    (enters_of Tryz.func39 (by kernel_rfl) rfl) blk 0 c xs.toArray (by simpa using h2) (by simpa using hsz) 93 (by rw [show xs.toArray.size = xs.length by simp, svK _ h2]; kernel_rfl) false
    (fun args W => run_callFunc_extern Tryz.func93 (by kernel_rfl) (by kernel_rfl) (by kernel_rfl) (e := Extern.ReflectliteSwapper.swap false) (by kernel_rfl) args W) w hless hH hblk
  change Calls Tryz.prog 38 _ _ _ at hS
  rw [show xs.toArray.size = xs.length by simp] at hS
  refine hS.mono ?_
  rintro e w' ⟨rfl, d', n, os, ⟨hps, _, hpp⟩, hso, rfl⟩
  have hps' : d'.size = xs.length := by simpa using hps
  refine ⟨rfl, d'.toList, ?_, ?_, ?_, ?_⟩
  · have e1 : d'.extract 0 xs.length = d' := by rw [← hps']; simp
    have e2 : xs.toArray.extract 0 xs.length = xs.toArray := by simp
    rw [e1, e2] at hpp
    simpa using hpp
  · rw [List.pairwise_iff_getElem]
    intro i j hi hj hij
    have := hso i j (Nat.zero_le _) hij (by simpa [hps'] using hj)
    simp only [Array.length_toList] at hi hj
    simpa [ltP, hi, hj] using this
  · intro i p hp
    have hi : i < d'.size := by
      rcases Nat.lt_or_ge i d'.size with h | h
      · exact h
      · simp [h] at hp
    have hp' : d'[i]! = p := by simp [hi] at hp; simp [hi, hp]
    have e : grow (putRowK encP 2 (Sort.ahead w n) blk 0 d') os = putRowK encP 2 (grow (Sort.ahead w n) os) blk 0 d' := by
      rw [putRowK_grow _ _ (Sort.ahead w n) _ blk 0 _ hblk]
    have hHg : HoldsK encP 2 (grow (Sort.ahead w n) os) blk 0 xs.toArray := holdsK_grow _ _ _ _ blk 0 _ hblk (holdsK_ahead _ _ _ _ _ _ _ hH)
    have hK := holdsK_putRowK _ _ _ blk 0 xs.toArray d' hHg hps
    have c0 := (hK.cell (i := i) (c := 0) hi (by omega)).1
    have c1 := (hK.cell (i := i) (c := 1) hi (by omega)).1
    rw [← e, hp'] at c0 c1
    refine ⟨blk, 0, rfl, ?_, by simpa [encP] using c0, by simpa [encP] using c1⟩
    have : (Sort.ahead w n).heap.size = w.heap.size := rfl
    simp [grow, putRowK, putRow, mapBlock, this]
    omega
  · refine ⟨rfl, rfl, rfl, by simp [grow, putRowK, putRow, mapBlock, Sort.ahead], fun k hk hne => ?_⟩
    have hne' : blk ≠ k := fun e => hne (by rw [e])
    rw [heap_grow_old _ _ (by simpa [putRowK, putRow, mapBlock, Sort.ahead] using hk)]
    simp [putRowK, putRow, mapBlock, Sort.ahead, Array.getElem?_modify, hne']
/-- what the sort leaves, of a row of the call's own -/
def SortedRow (w : World) (v : Value) (xs : List Pr) (e : Ending) (w' : World) : Prop :=
  e = .returned (.tuple #[]) ∧ ∃ ys : List Pr, ys.Perm xs ∧ ys.Pairwise (fun p q => ltB q.1 p.1 = false) ∧ (∃ A c, v = .slice A ys.length c ∧ SV w' A c ys) ∧ w.grownBy w' v.ownBlock

theorem sv0 : Lib.swapperK 0 svE 25 = 1 := by simp [Lib.swapperK]
theorem sv1 : Lib.swapperK 1 svE 25 = 2 := by simp [Lib.swapperK]
theorem sort_tiny (p : Option Addr) (n c : Nat) (h1 : n ≤ 1) (Bs : Nat) (w : World) :
    Calls Tryz.prog 38 #[.iface 26 (.slice p n c), .func (.func 39) #[] #[.pointer (some ⟨Bs, 0, none⟩)]] w fun e w' => e = .returned (.tuple #[]) ∧ ∃ os, w' = grow w os := by
  rcases (show n = 0 ∨ n = 1 by omega) with rfl | rfl
  · exact Any.sort_Slice_tiny Tryz.sv6 26 55 svT svE (by kernel_rfl) (by kernel_rfl) (by kernel_rfl) (by kernel_rfl) 25 (fun _ => by kernel_rfl) p 0 c h1 85 (by rw [sv0]; kernel_rfl) _ _ _ w
  · exact Any.sort_Slice_tiny Tryz.sv6 26 55 svT svE (by kernel_rfl) (by kernel_rfl) (by kernel_rfl) (by kernel_rfl) 25 (fun _ => by kernel_rfl) p 1 c h1 86 (by rw [sv1]; kernel_rfl) _ _ _ w

theorem grown_grow (w : World) (os : Array Obj) (row : Option Nat) : w.grownBy (grow w os) row := ⟨rfl, rfl, rfl, by simp [grow], fun k hk _ => heap_grow_old _ _ hk⟩
theorem SV.kept {w w' : World} {A : Option Addr} {c : Nat} {l : List Pr} (h : SV w A c l) (hg : w.grownBy w' none) : SV w' A c l :=
  h.below ⟨hg.os, hg.tape, hg.output, hg.size, fun k hk => hg.block k hk (by simp)⟩
theorem perm_one {xs : List Pr} (h : xs.length ≤ 1) : xs.Pairwise (fun p q => ltB q.1 p.1 = false) := by
  match xs, h with
  | [], _ => exact List.Pairwise.nil
  | [p], _ => simp

theorem sort_any (base Bs : Nat) (v : Value) (xs : List Pr) (w : World) (hown : w.ownsRow base 55 2 v xs.length (cellsOf xs)) (hsz : xs.length < 4611686018427387904)
    (hBs : w.cell? ⟨Bs, 0, none⟩ = some v) (hB1 : Bs < w.heap.size) (hB2 : v.ownBlock ≠ some Bs) :
    Calls Tryz.prog 38 #[.iface 26 v, .func (.func 39) #[] #[.pointer (some ⟨Bs, 0, none⟩)]] w (SortedRow w v xs) := by
  by_cases h2 : 2 ≤ xs.length
  · rcases hown.2 with ⟨_, h0⟩ | ⟨g, cap, cur, rfl, hbase, hb, h3, h4, h5, h6⟩
    · omega
    · have hgl : g < w.heap.size := (Array.getElem?_eq_some_iff.1 hb).1
      refine (sort_many g cap Bs xs h2 hsz w (holdsP hb h6) hgl hBs hB1 (fun e => hB2 (by simp [Value.ownBlock, e]))).mono ?_
      rintro e w' ⟨rfl, ys, hp, hs, hps, hg⟩
      refine ⟨rfl, ys, hp, hs, ⟨some ⟨g, 0, none⟩, cap, by rw [hp.length_eq], hps, by rw [hp.length_eq]; exact h3, h4, (fun e => by cases e), (fun _ a ha => by injection ha with ha; exact ⟨g, 0, ha.symm⟩)⟩, hg⟩
  · obtain ⟨A, c, rfl, hsv⟩ := SV.of_own hown
    refine (sort_tiny A xs.length c (by omega) Bs w).mono ?_
    rintro e w' ⟨rfl, os, rfl⟩
    exact ⟨rfl, xs, List.Perm.refl _, perm_one (by omega), ⟨A, c, rfl, hsv.kept (grown_grow w os none)⟩, grown_grow w os _⟩
end Go.Proofs.YtpefdonhacmaoaaGreatDoor
