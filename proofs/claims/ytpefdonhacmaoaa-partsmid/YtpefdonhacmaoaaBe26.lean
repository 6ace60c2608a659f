/-
  The contract of sort.Slice that the library holds, laid at this dump.
  sort.Slice of pairs by their keys, as roref.List calls it.
  Keys of maps, boxed variables (no body of the program in it).
-/
import Derived.Shelf.SlSortFuncK.WholeK
import Derived.Ground.GgsProg
import Derived.Test.YtpefdonhacmaoaaProg
import Derived.Test.YtpefdonhacmaoaaBe7
import Derived.Test.YtpefdonhacmaoaaBe1
import Derived.Shelf.GgSortFunc.Tiny
import Derived.WalkKit
import Derived.WalkSpells
import Derived.WalkLawsBesides
import Derived.Deep.QuietTactic
import Derived.BigQuiet
import Derived.Maps.Own
import Derived.Maps.OwnOps
import Derived.Maps.OwnSet
namespace Go.Proofs
open Go.Shelf
def Try.sv6_ren : Go.Shelf.Ren := ⟨fun | 6 => 32 | 10 => 43 | 11 => 44 | 12 => 45 | 13 => 46 | 14 => 47 | 24 => 63 | 25 => 64 | 26 => 65 | 27 => 66 | 28 => 67 | 29 => 68 | 30 => 69 | 31 => 70 | 32 => 71 | 33 => 72 | 34 => 75 | 35 => 76 | 36 => 77 | 37 => 78 | 38 => 79 | 39 => 81 | n => n, fun | 20 => 20 | 26 => 82 | 35 => 95 | 0 => 0 | 37 => 97 | 3 => 3 | 41 => 101 | 44 => 104 | 49 => 115 | 51 => 79 | 4 => 4 | 54 => 119 | 53 => 118 | 58 => 123 | 5 => 5 | 9 => 9 | 60 => 127 | 64 => 131 | 66 => 134 | 67 => 135 | 17 => 17 | 32 => 92 | 33 => 93 | 82 => 153 | 12 => 12 | 75 => 146 | 76 => 147 | 77 => 148 | 78 => 149 | 79 => 150 | 80 => 151 | n => n, fun | n => n⟩
theorem Try.sv6 : Go.Proofs.LaysGg.n6 Try.prog Try.sv6_ren := {
  mixed := by kernel_rfl
  f6 := Try.func32.trans (congrArg some (by kernel_rfl))
  f10 := Try.func43.trans (congrArg some (by kernel_rfl))
  f11 := Try.func44.trans (congrArg some (by kernel_rfl))
  f12 := Try.func45.trans (congrArg some (by kernel_rfl))
  f13 := Try.func46.trans (congrArg some (by kernel_rfl))
  f14 := Try.func47.trans (congrArg some (by kernel_rfl))
  f24 := Try.func63.trans (congrArg some (by kernel_rfl))
  f25 := Try.func64.trans (congrArg some (by kernel_rfl))
  f26 := Try.func65.trans (congrArg some (by kernel_rfl))
  f27 := Try.func66.trans (congrArg some (by kernel_rfl))
  f28 := Try.func67.trans (congrArg some (by kernel_rfl))
  f29 := Try.func68.trans (congrArg some (by kernel_rfl))
  f30 := Try.func69.trans (congrArg some (by kernel_rfl))
  f31 := Try.func70.trans (congrArg some (by kernel_rfl))
  f32 := Try.func71.trans (congrArg some (by kernel_rfl))
  f33 := Try.func72.trans (congrArg some (by kernel_rfl))
  f34 := Try.func75.trans (congrArg some (by kernel_rfl))
  f35 := Try.func76.trans (congrArg some (by kernel_rfl))
  f36 := Try.func77.trans (congrArg some (by kernel_rfl))
  f37 := Try.func78.trans (congrArg some (by kernel_rfl))
  f38 := Try.func79.trans (congrArg some (by kernel_rfl))
  f39 := Try.func81.trans (congrArg some (by kernel_rfl))
  t0 := Try.underlying0
  a0 := Try.isAgg0
  z0 := Try.sizeOf0
  v0 := Try.zeroValue0
  i0 := by kernel_rfl
  t3 := Try.underlying3
  a3 := Try.isAgg3
  z3 := Try.sizeOf3
  v3 := Try.zeroValue3
  i3 := by kernel_rfl
  t4 := Try.underlying4
  a4 := Try.isAgg4
  z4 := Try.sizeOf4
  v4 := Try.zeroValue4
  i4 := by kernel_rfl
  t5 := Try.underlying5
  a5 := Try.isAgg5
  z5 := Try.sizeOf5
  v5 := Try.zeroValue5
  i5 := by kernel_rfl
  t9 := Try.underlying9
  a9 := Try.isAgg9
  z9 := Try.sizeOf9
  v9 := Try.zeroValue9
  i9 := by kernel_rfl
  t12 := Try.underlying12
  a12 := Try.isAgg12
  z12 := Try.sizeOf12
  v12 := Try.zeroValue12
  i12 := by kernel_rfl
  t17 := Try.underlying17
  a17 := Try.isAgg17
  z17 := Try.sizeOf17
  v17 := Try.zeroValue17
  i17 := by kernel_rfl
  t20 := Try.underlying20
  a20 := Try.isAgg20
  z20 := Try.sizeOf20
  v20 := Try.zeroValue20
  i20 := by kernel_rfl
  t26 := Try.underlying82
  a26 := Try.isAgg82
  z26 := Try.sizeOf82
  v26 := Try.zeroValue82
  i26 := by kernel_rfl
  t32 := Try.underlying92
  a32 := Try.isAgg92
  z32 := Try.sizeOf92
  v32 := Try.zeroValue92
  i32 := by kernel_rfl
  t33 := Try.underlying93
  a33 := Try.isAgg93
  z33 := Try.sizeOf93
  v33 := Try.zeroValue93
  i33 := by kernel_rfl
  t35 := Try.underlying95
  a35 := Try.isAgg95
  z35 := Try.sizeOf95
  v35 := Try.zeroValue95
  i35 := by kernel_rfl
  t37 := Try.underlying97
  a37 := Try.isAgg97
  z37 := Try.sizeOf97
  v37 := Try.zeroValue97
  i37 := by kernel_rfl
  t41 := Try.underlying101
  a41 := Try.isAgg101
  z41 := Try.sizeOf101
  v41 := Try.zeroValue101
  i41 := by kernel_rfl
  t44 := Try.underlying104
  a44 := Try.isAgg104
  z44 := Try.sizeOf104
  v44 := Try.zeroValue104
  i44 := by kernel_rfl
  t49 := Try.underlying115
  a49 := Try.isAgg115
  z49 := Try.sizeOf115
  v49 := Try.zeroValue115
  i49 := by kernel_rfl
  t51 := Try.underlying79
  a51 := Try.isAgg79
  z51 := Try.sizeOf79
  v51 := Try.zeroValue79
  i51 := by kernel_rfl
  t53 := Try.underlying118
  a53 := Try.isAgg118
  z53 := Try.sizeOf118
  v53 := Try.zeroValue118
  i53 := by kernel_rfl
  t54 := Try.underlying119
  a54 := Try.isAgg119
  z54 := Try.sizeOf119
  v54 := Try.zeroValue119
  i54 := by kernel_rfl
  t58 := Try.underlying123
  a58 := Try.isAgg123
  z58 := Try.sizeOf123
  v58 := Try.zeroValue123
  i58 := by kernel_rfl
  t60 := Try.underlying127
  a60 := Try.isAgg127
  z60 := Try.sizeOf127
  v60 := Try.zeroValue127
  i60 := by kernel_rfl
  t64 := Try.underlying131
  a64 := Try.isAgg131
  z64 := Try.sizeOf131
  v64 := Try.zeroValue131
  i64 := by kernel_rfl
  t66 := Try.underlying134
  a66 := Try.isAgg134
  z66 := Try.sizeOf134
  v66 := Try.zeroValue134
  i66 := by kernel_rfl
  t67 := Try.underlying135
  a67 := Try.isAgg135
  z67 := Try.sizeOf135
  v67 := Try.zeroValue135
  i67 := by kernel_rfl
  t75 := Try.underlying146
  a75 := Try.isAgg146
  z75 := Try.sizeOf146
  v75 := Try.zeroValue146
  i75 := by kernel_rfl
  t76 := Try.underlying147
  a76 := Try.isAgg147
  z76 := Try.sizeOf147
  v76 := Try.zeroValue147
  i76 := by kernel_rfl
  t77 := Try.underlying148
  a77 := Try.isAgg148
  z77 := Try.sizeOf148
  v77 := Try.zeroValue148
  i77 := by kernel_rfl
  t78 := Try.underlying149
  a78 := Try.isAgg149
  z78 := Try.sizeOf149
  v78 := Try.zeroValue149
  i78 := by kernel_rfl
  t79 := Try.underlying150
  a79 := Try.isAgg150
  z79 := Try.sizeOf150
  v79 := Try.zeroValue150
  i79 := by kernel_rfl
  t80 := Try.underlying151
  a80 := Try.isAgg151
  z80 := Try.sizeOf151
  v80 := Try.zeroValue151
  i80 := by kernel_rfl
  t82 := Try.underlying153
  a82 := Try.isAgg153
  z82 := Try.sizeOf153
  v82 := Try.zeroValue153
  i82 := by kernel_rfl }
end Go.Proofs

set_option linter.unusedVariables false
set_option linter.unusedSimpArgs false
namespace Go.Proofs.Ytpefdonhacmaoaa
open Go.RowKit Go.Shelf Go.Sort

def encP (p : Pr) : List Value := [.string p.1, .int .i64 p.2]
def ltP (p q : Pr) : Bool := ltB p.1 q.1
theorem swo_ltP : SWO ltP where
  irrefl := fun x => ltB_irrefl _
  trans := fun x y z h1 h2 => ltB_trans h1 h2
  ntrans := fun x y z h1 h2 => by
    unfold ltP at *
    cases h : ltB x.1 z.1
    · rfl
    · cases h3 : ltB z.1 y.1
      · have e := ltB_total h2 h3
        rw [← e, h1] at h; cases h
      · have := ltB_trans h h3
        rw [h1] at this; cases this

noncomputable def svT : TypeInfo := (Try.prog.info? 29).get (by kernel_rfl)
noncomputable def svE : TypeInfo := (Try.prog.info? 46).get (by kernel_rfl)
theorem svK (n : Nat) (h2 : 2 ≤ n) : Lib.swapperK n svE 25 = 9 := by
  have a : svE.hasPointers = true := by kernel_rfl
  have b : svE.bytes = 24 := by kernel_rfl
  have c : (n == 0) = false := by simp; omega
  have d : (n == 1) = false := by simp; omega
  simp [Lib.swapperK, a, b, c, d]

set_option maxHeartbeats 1000000 in
theorem less_any (blk c Bs size : Nat) (W : World) (G : Nat → ByteArray) (hs : W.cell? ⟨Bs, 0, none⟩ = some (.slice (some ⟨blk, 0, none⟩) size c))
    (hc : ∀ t, t < size → W.cell? ⟨blk, t * 2, none⟩ = some (.string (G t))) (i j : Nat) (hi : i < size) (hj : j < size) (_hsz : size < 4611686018427387904) :
    Calls Try.prog 33 #[.int .i64 i, .int .i64 j, .pointer (some ⟨Bs, 0, none⟩)] W fun e w' => e = .returned (.bool (ltB (G i) (G j))) ∧ ∃ q, w' = W.drewN q := by
  have ci := hc i hi
  have cj := hc j hj
  clear hc
  generalize G i = gi at ci
  generalize G j = gj at cj
  go_enter Try.func33, Try.ntmps33
  go_wp2
  go_quiet (fail)
  go_wp2
  go_ret
  exact ⟨rfl, nq, rfl⟩

theorem holdsP {w : World} {g : Nat} {cur : Array Value} {e : TypeId} {xs : List Pr} (hb : w.heap[g]? = some (.cells cur e (0, 0))) (ht : cur.toList.take (xs.length * 2) = cellsOf xs) : HoldsK encP 2 w g 0 xs.toArray := by
  intro j hj
  rw [size_flatK] at hj
  have hj' : j < xs.length * 2 := by simpa using hj
  refine ⟨?_, by simp [World.frozen?, hb]⟩
  rw [get_flatK _ _ _ _ hj]
  have h1 : (cur.toList.take (xs.length * 2))[j]? = (cellsOf xs)[j]? := by rw [ht]
  rw [List.getElem?_take_of_lt hj'] at h1
  simp only [World.cell?, hb, Nat.zero_add]
  have hi : j / 2 < xs.length := by omega
  have hg := cellsOf_get xs (j / 2) _ (List.getElem?_eq_getElem hi)
  have e1 : cur[j]? = (cellsOf xs)[j]? := by rw [← h1]; simp
  rw [e1]
  have e2 : xs.toArray[j / 2]! = xs[j / 2] := by simp [hi]
  rw [e2]
  rcases Nat.mod_two_eq_zero_or_one j with hm | hm
  · have : j / 2 * 2 = j := by omega
    rw [this] at hg
    rw [hm, hg.1]; rfl
  · have : j / 2 * 2 + 1 = j := by omega
    rw [this] at hg
    rw [hm, hg.2]; rfl

/-- what the sort leaves -/
def Sorted (w : World) (blk : Nat) (xs : List Pr) (e : Ending) (w' : World) : Prop :=
  e = .returned (.tuple #[]) ∧ ∃ ys : List Pr, ys.Perm xs ∧ ys.Pairwise (fun p q => ltB q.1 p.1 = false) ∧ PS w' w'.heap.size (some ⟨blk, 0, none⟩) ys ∧ w.grownBy w' (some blk)

theorem sort_many (blk c Bs : Nat) (xs : List Pr) (h2 : 2 ≤ xs.length) (hsz : xs.length < 4611686018427387904) (w : World) (hH : HoldsK encP 2 w blk 0 xs.toArray) (hblk : blk < w.heap.size)
    (hBs : w.cell? ⟨Bs, 0, none⟩ = some (.slice (some ⟨blk, 0, none⟩) xs.length c)) (hB1 : Bs < w.heap.size) (hB2 : Bs ≠ blk) :
    Calls Try.prog 32 #[.iface 29 (.slice (some ⟨blk, 0, none⟩) xs.length c), .func (.func 33) #[] #[.pointer (some ⟨Bs, 0, none⟩)]] w (Sorted w blk xs) := by
  have hless : LessReadsK Try.prog 33 #[.pointer (some ⟨Bs, 0, none⟩)] encP 2 ltP blk 0 xs.toArray.size w := by
    intro m os dk hs i j hi hj
    have e : sortWorldK encP 2 w blk 0 m dk os = putRowK encP 2 (grow (Sort.ahead w m) os) blk 0 dk := by
      unfold sortWorldK; rw [putRowK_grow _ _ (Sort.ahead w m) _ blk 0 _ hblk]
    have hHg : HoldsK encP 2 (grow (Sort.ahead w m) os) blk 0 xs.toArray := holdsK_grow _ _ _ _ blk 0 _ hblk (holdsK_ahead _ _ _ _ _ _ _ hH)
    refine less_any blk c Bs xs.toArray.size _ (fun t => dk[t]!.1) ?_ (fun t ht => ?_) i j hi hj (by simpa using hsz)
    · rw [e, cell?_putRowK_other _ _ _ blk 0 dk _ (by exact hB2), cell?_grow _ _ _ (by exact hB1)]; exact hBs
    · rw [e]
      have := ((holdsK_putRowK _ _ _ blk 0 xs.toArray dk hHg hs).cell (i := t) (c := 0) (by omega) (by omega)).1
      simpa [encP] using this
  have hS := Any.sort_Slice_cells_sorted Try.sv6 29 46 svT svE (by kernel_rfl) (by kernel_rfl) (by kernel_rfl) (by kernel_rfl) 25 (fun _ => by kernel_rfl) encP 2 (fun _ => rfl) (by kernel_rfl) (fun _ => by kernel_rfl)
    (fun x v hv => by simp [encP] at hv; rcases hv with rfl | rfl <;> rfl) ltP swo_ltP 33 #[.pointer (some ⟨Bs, 0, none⟩)]
    (enters_of Try.func33 (by kernel_rfl) rfl) blk 0 c xs.toArray (by simpa using h2) (by simpa using hsz) 62 (by rw [show xs.toArray.size = xs.length by simp, svK _ h2]; kernel_rfl) false
    (fun args W => run_callFunc_extern Try.func62 (by kernel_rfl) (by kernel_rfl) (by kernel_rfl) (e := Extern.ReflectliteSwapper.swap false) (by kernel_rfl) args W) w hless hH hblk
  change Calls Try.prog 32 _ _ _ at hS
  rw [show xs.toArray.size = xs.length by simp] at hS
  refine hS.mono ?_
  rintro e w' ⟨rfl, d', n, os, ⟨hps, _, hpp⟩, hso, rfl⟩
  have hps' : d'.size = xs.length := by simpa using hps
  refine ⟨rfl, d'.toList, ?_, ?_, ?_, ?_⟩
  · have e1 : d'.extract 0 xs.length = d' := by rw [← hps']; simp
    have e2 : xs.toArray.extract 0 xs.length = xs.toArray := by simp
    rw [e1, e2] at hpp
    simpa using hpp
  · rw [List.pairwise_iff_getElem]
    intro i j hi hj hij
    have := hso i j (Nat.zero_le _) hij (by simpa [hps'] using hj)
    simp only [Array.length_toList] at hi hj
    simpa [ltP, hi, hj] using this
  · intro i p hp
    have hi : i < d'.size := by
      rcases Nat.lt_or_ge i d'.size with h | h
      · exact h
      · simp [h] at hp
    have hp' : d'[i]! = p := by simp [hi] at hp; simp [hi, hp]
    have e : grow (putRowK encP 2 (Sort.ahead w n) blk 0 d') os = putRowK encP 2 (grow (Sort.ahead w n) os) blk 0 d' := by
      rw [putRowK_grow _ _ (Sort.ahead w n) _ blk 0 _ hblk]
    have hHg : HoldsK encP 2 (grow (Sort.ahead w n) os) blk 0 xs.toArray := holdsK_grow _ _ _ _ blk 0 _ hblk (holdsK_ahead _ _ _ _ _ _ _ hH)
    have hK := holdsK_putRowK _ _ _ blk 0 xs.toArray d' hHg hps
    have c0 := (hK.cell (i := i) (c := 0) hi (by omega)).1
    have c1 := (hK.cell (i := i) (c := 1) hi (by omega)).1
    rw [← e, hp'] at c0 c1
    refine ⟨blk, 0, rfl, ?_, by simpa [encP] using c0, by simpa [encP] using c1⟩
    have : (Sort.ahead w n).heap.size = w.heap.size := rfl
    simp [grow, putRowK, putRow, mapBlock, this]
    omega
  · refine ⟨rfl, rfl, rfl, by simp [grow, putRowK, putRow, mapBlock, Sort.ahead], fun k hk hne => ?_⟩
    have hne' : blk ≠ k := fun e => hne (by rw [e])
    rw [heap_grow_old _ _ (by simpa [putRowK, putRow, mapBlock, Sort.ahead] using hk)]
    simp [putRowK, putRow, mapBlock, Sort.ahead, Array.getElem?_modify, hne']
/-- what the sort leaves, of a row of the call's own -/
def SortedRow (w : World) (v : Value) (xs : List Pr) (e : Ending) (w' : World) : Prop :=
  e = .returned (.tuple #[]) ∧ ∃ ys : List Pr, ys.Perm xs ∧ ys.Pairwise (fun p q => ltB q.1 p.1 = false) ∧ (∃ A c, v = .slice A ys.length c ∧ SV w' A c ys) ∧ w.grownBy w' v.ownBlock

theorem sv0 : Lib.swapperK 0 svE 25 = 1 := by simp [Lib.swapperK]
theorem sv1 : Lib.swapperK 1 svE 25 = 2 := by simp [Lib.swapperK]
theorem sort_tiny (p : Option Addr) (n c : Nat) (h1 : n ≤ 1) (Bs : Nat) (w : World) :
    Calls Try.prog 32 #[.iface 29 (.slice p n c), .func (.func 33) #[] #[.pointer (some ⟨Bs, 0, none⟩)]] w fun e w' => e = .returned (.tuple #[]) ∧ ∃ os, w' = grow w os := by
  rcases (show n = 0 ∨ n = 1 by omega) with rfl | rfl
  · exact Any.sort_Slice_tiny Try.sv6 29 46 svT svE (by kernel_rfl) (by kernel_rfl) (by kernel_rfl) (by kernel_rfl) 25 (fun _ => by kernel_rfl) p 0 c h1 54 (by rw [sv0]; kernel_rfl) _ _ _ w
  · exact Any.sort_Slice_tiny Try.sv6 29 46 svT svE (by kernel_rfl) (by kernel_rfl) (by kernel_rfl) (by kernel_rfl) 25 (fun _ => by kernel_rfl) p 1 c h1 55 (by rw [sv1]; kernel_rfl) _ _ _ w

theorem grown_grow (w : World) (os : Array Obj) (row : Option Nat) : w.grownBy (grow w os) row := ⟨rfl, rfl, rfl, by simp [grow], fun k hk _ => heap_grow_old _ _ hk⟩
theorem SV.kept {w w' : World} {A : Option Addr} {c : Nat} {l : List Pr} (h : SV w A c l) (hg : w.grownBy w' none) : SV w' A c l :=
  h.below ⟨hg.os, hg.tape, hg.output, hg.size, fun k hk => hg.block k hk (by simp)⟩
theorem perm_one {xs : List Pr} (h : xs.length ≤ 1) : xs.Pairwise (fun p q => ltB q.1 p.1 = false) := by
  match xs, h with
  | [], _ => exact List.Pairwise.nil
  | [p], _ => simp

theorem sort_any (base Bs : Nat) (v : Value) (xs : List Pr) (w : World) (hown : w.ownsRow base 46 2 v xs.length (cellsOf xs)) (hsz : xs.length < 4611686018427387904)
    (hBs : w.cell? ⟨Bs, 0, none⟩ = some v) (hB1 : Bs < w.heap.size) (hB2 : v.ownBlock ≠ some Bs) :
    Calls Try.prog 32 #[.iface 29 v, .func (.func 33) #[] #[.pointer (some ⟨Bs, 0, none⟩)]] w (SortedRow w v xs) := by
  by_cases h2 : 2 ≤ xs.length
  · rcases hown.2 with ⟨_, h0⟩ | ⟨g, cap, cur, rfl, hbase, hb, h3, h4, h5, h6⟩
    · omega
    · have hgl : g < w.heap.size := (Array.getElem?_eq_some_iff.1 hb).1
      refine (sort_many g cap Bs xs h2 hsz w (holdsP hb h6) hgl hBs hB1 (fun e => hB2 (by simp [Value.ownBlock, e]))).mono ?_
      rintro e w' ⟨rfl, ys, hp, hs, hps, hg⟩
      refine ⟨rfl, ys, hp, hs, ⟨some ⟨g, 0, none⟩, cap, by rw [hp.length_eq], hps, by rw [hp.length_eq]; exact h3, h4, (fun e => by cases e), (fun _ a ha => by injection ha with ha; exact ⟨g, 0, ha.symm⟩)⟩, hg⟩
  · obtain ⟨A, c, rfl, hsv⟩ := SV.of_own hown
    refine (sort_tiny A xs.length c (by omega) Bs w).mono ?_
    rintro e w' ⟨rfl, os, rfl⟩
    exact ⟨rfl, xs, List.Perm.refl _, perm_one (by omega), ⟨A, c, rfl, hsv.kept (grown_grow w os none)⟩, grown_grow w os _⟩
end Go.Proofs.Ytpefdonhacmaoaa

set_option linter.unusedVariables false
set_option linter.unusedSimpArgs false
namespace Go.Proofs.Ytpefdonhacmaoaa
open Go.RowKit Go.Maps

/-- a key as a map's key -/
def kl (k : ByteArray) : Lit := .string k.data.toList
theorem kl_inj {a b : ByteArray} (h : kl a = kl b) : a = b := by
  unfold kl at h; injection h with h; exact by8_inj h
theorem same_kl {a b : ByteArray} (h : (kl a).sameKey (kl b) = true) : a = b := kl_inj (WideAt.sameKey_eq h)
theorem grown_setCell (w : World) (p : Addr) (u : Value) : w.grownBy (w.setCell p u) (some p.block) :=
  ⟨rfl, rfl, rfl, by simp [World.setCell], fun i _ hne => Below.heap_setCell w p u i (fun e => hne (by rw [e]))⟩
theorem box_set {w : World} {g : Nat} {v u : Value} {t : TypeId} (h : w.heap[g]? = some (.cells #[v] t)) : (w.setCell ⟨g, 0, none⟩ u).heap[g]? = some (.cells #[u] t) := by
  simp [World.setCell, Array.getElem?_modify, h]
theorem law9 : Keyed Try.prog 9 := string_keyed Try.underlying9
end Go.Proofs.Ytpefdonhacmaoaa
