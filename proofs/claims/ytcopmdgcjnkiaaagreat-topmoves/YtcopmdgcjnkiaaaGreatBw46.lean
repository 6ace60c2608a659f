/-
  The contract of sort.Slice that the library holds, laid at this dump.
  sort.Slice of pairs by their keys, as roref.List calls it.
  Keys of maps, boxed variables (no body of the program in it).
-/
import Derived.Shelf.SlSortFuncK.WholeK
import Derived.Ground.GgsProg
import Derived.Test.YtcopmdgcjnkiaaaGreatProg
import Derived.Test.YtcopmdgcjnkiaaaGreatBw3
import Derived.Test.YtcopmdgcjnkiaaaGreatBw1
import Derived.Shelf.GgSortFunc.Tiny
import Derived.WalkKit
import Derived.WalkSpells
import Derived.WalkLawsBesides
import Derived.Deep.QuietTactic
import Derived.BigQuiet
import Derived.Maps.Own
import Derived.Maps.OwnOps
import Derived.Maps.OwnSet
namespace Go.Proofs
open Go.Shelf
def Tryz.sv6_ren : Go.Shelf.Ren := ⟨fun | 6 => 58 | 10 => 78 | 11 => 79 | 12 => 80 | 13 => 81 | 14 => 82 | 24 => 99 | 25 => 100 | 26 => 101 | 27 => 102 | 28 => 103 | 29 => 104 | 30 => 105 | 31 => 106 | 32 => 107 | 33 => 108 | 34 => 110 | 35 => 111 | 36 => 112 | 37 => 113 | 38 => 114 | 39 => 116 | n => n, fun | 20 => 20 | 26 => 130 | 35 => 151 | 0 => 0 | 37 => 153 | 3 => 3 | 41 => 156 | 44 => 159 | 49 => 173 | 51 => 105 | 4 => 4 | 54 => 177 | 53 => 176 | 58 => 141 | 5 => 5 | 9 => 9 | 60 => 182 | 64 => 186 | 66 => 188 | 67 => 189 | 17 => 17 | 32 => 148 | 33 => 149 | 82 => 204 | 12 => 12 | 75 => 197 | 76 => 198 | 77 => 199 | 78 => 200 | 79 => 201 | 80 => 202 | n => n, fun | n => n⟩
theorem Tryz.sv6 : Go.Proofs.LaysGg.n6 Tryz.prog Tryz.sv6_ren := {
  mixed := by kernel_rfl
  f6 := Tryz.func58.trans (congrArg some (by kernel_rfl))
  f10 := Tryz.func78.trans (congrArg some (by kernel_rfl))
  f11 := Tryz.func79.trans (congrArg some (by kernel_rfl))
  f12 := Tryz.func80.trans (congrArg some (by kernel_rfl))
  f13 := Tryz.func81.trans (congrArg some (by kernel_rfl))
  f14 := Tryz.func82.trans (congrArg some (by kernel_rfl))
  f24 := Tryz.func99.trans (congrArg some (by kernel_rfl))
  f25 := Tryz.func100.trans (congrArg some (by kernel_rfl))
  f26 := Tryz.func101.trans (congrArg some (by kernel_rfl))
  f27 := Tryz.func102.trans (congrArg some (by kernel_rfl))
  f28 := Tryz.func103.trans (congrArg some (by kernel_rfl))
  f29 := Tryz.func104.trans (congrArg some (by kernel_rfl))
  f30 := Tryz.func105.trans (congrArg some (by kernel_rfl))
  f31 := Tryz.func106.trans (congrArg some (by kernel_rfl))
  f32 := Tryz.func107.trans (congrArg some (by kernel_rfl))
  f33 := Tryz.func108.trans (congrArg some (by kernel_rfl))
  f34 := Tryz.func110.trans (congrArg some (by kernel_rfl))
  f35 := Tryz.func111.trans (congrArg some (by kernel_rfl))
  f36 := Tryz.func112.trans (congrArg some (by kernel_rfl))
  f37 := Tryz.func113.trans (congrArg some (by kernel_rfl))
  f38 := Tryz.func114.trans (congrArg some (by kernel_rfl))
  f39 := Tryz.func116.trans (congrArg some (by kernel_rfl))
  t0 := Tryz.underlying0
  a0 := Tryz.isAgg0
  z0 := Tryz.sizeOf0
  v0 := Tryz.zeroValue0
  i0 := by kernel_rfl
  t3 := Tryz.underlying3
  a3 := Tryz.isAgg3
  z3 := Tryz.sizeOf3
  v3 := Tryz.zeroValue3
  i3 := by kernel_rfl
  t4 := Tryz.underlying4
  a4 := Tryz.isAgg4
  z4 := Tryz.sizeOf4
  v4 := Tryz.zeroValue4
  i4 := by kernel_rfl
  t5 := Tryz.underlying5
  a5 := Tryz.isAgg5
  z5 := Tryz.sizeOf5
  v5 := Tryz.zeroValue5
  i5 := by kernel_rfl
  t9 := Tryz.underlying9
  a9 := Tryz.isAgg9
  z9 := Tryz.sizeOf9
  v9 := Tryz.zeroValue9
  i9 := by kernel_rfl
  t12 := Tryz.underlying12
  a12 := Tryz.isAgg12
  z12 := Tryz.sizeOf12
  v12 := Tryz.zeroValue12
  i12 := by kernel_rfl
  t17 := Tryz.underlying17
  a17 := Tryz.isAgg17
  z17 := Tryz.sizeOf17
  v17 := Tryz.zeroValue17
  i17 := by kernel_rfl
  t20 := Tryz.underlying20
  a20 := Tryz.isAgg20
  z20 := Tryz.sizeOf20
  v20 := Tryz.zeroValue20
  i20 := by kernel_rfl
  t26 := Tryz.underlying130
  a26 := Tryz.isAgg130
  z26 := Tryz.sizeOf130
  v26 := Tryz.zeroValue130
  i26 := by kernel_rfl
  t32 := Tryz.underlying148
  a32 := Tryz.isAgg148
  z32 := Tryz.sizeOf148
  v32 := Tryz.zeroValue148
  i32 := by kernel_rfl
  t33 := Tryz.underlying149
  a33 := Tryz.isAgg149
  z33 := Tryz.sizeOf149
  v33 := Tryz.zeroValue149
  i33 := by kernel_rfl
  t35 := Tryz.underlying151
  a35 := Tryz.isAgg151
  z35 := Tryz.sizeOf151
  v35 := Tryz.zeroValue151
  i35 := by kernel_rfl
  t37 := Tryz.underlying153
  a37 := Tryz.isAgg153
  z37 := Tryz.sizeOf153
  v37 := Tryz.zeroValue153
  i37 := by kernel_rfl
  t41 := Tryz.underlying156
  a41 := Tryz.isAgg156
  z41 := Tryz.sizeOf156
  v41 := Tryz.zeroValue156
  i41 := by kernel_rfl
  t44 := Tryz.underlying159
  a44 := Tryz.isAgg159
  z44 := Tryz.sizeOf159
  v44 := Tryz.zeroValue159
  i44 := by kernel_rfl
  t49 := Tryz.underlying173
  a49 := Tryz.isAgg173
  z49 := Tryz.sizeOf173
  v49 := Tryz.zeroValue173
  i49 := by kernel_rfl
  t51 := Tryz.underlying105
  a51 := Tryz.isAgg105
  z51 := Tryz.sizeOf105
  v51 := Tryz.zeroValue105
  i51 := by kernel_rfl
  t53 := Tryz.underlying176
  a53 := Tryz.isAgg176
  z53 := Tryz.sizeOf176
  v53 := Tryz.zeroValue176
  i53 := by kernel_rfl
  t54 := Tryz.underlying177
  a54 := Tryz.isAgg177
  z54 := Tryz.sizeOf177
  v54 := Tryz.zeroValue177
  i54 := by kernel_rfl
  t58 := Tryz.underlying141
  a58 := Tryz.isAgg141
  z58 := Tryz.sizeOf141
  v58 := Tryz.zeroValue141
  i58 := by kernel_rfl
  t60 := Tryz.underlying182
  a60 := Tryz.isAgg182
  z60 := Tryz.sizeOf182
  v60 := Tryz.zeroValue182
  i60 := by kernel_rfl
  t64 := Tryz.underlying186
  a64 := Tryz.isAgg186
  z64 := Tryz.sizeOf186
  v64 := Tryz.zeroValue186
  i64 := by kernel_rfl
  t66 := Tryz.underlying188
  a66 := Tryz.isAgg188
  z66 := Tryz.sizeOf188
  v66 := Tryz.zeroValue188
  i66 := by kernel_rfl
  t67 := Tryz.underlying189
  a67 := Tryz.isAgg189
  z67 := Tryz.sizeOf189
  v67 := Tryz.zeroValue189
  i67 := by kernel_rfl
  t75 := Tryz.underlying197
  a75 := Tryz.isAgg197
  z75 := Tryz.sizeOf197
  v75 := Tryz.zeroValue197
  i75 := by kernel_rfl
  t76 := Tryz.underlying198
  a76 := Tryz.isAgg198
  z76 := Tryz.sizeOf198
  v76 := Tryz.zeroValue198
  i76 := by kernel_rfl
  t77 := Tryz.underlying199
  a77 := Tryz.isAgg199
  z77 := Tryz.sizeOf199
  v77 := Tryz.zeroValue199
  i77 := by kernel_rfl
  t78 := Tryz.underlying200
  a78 := Tryz.isAgg200
  z78 := Tryz.sizeOf200
  v78 := Tryz.zeroValue200
  i78 := by kernel_rfl
  t79 := Tryz.underlying201
  a79 := Tryz.isAgg201
  z79 := Tryz.sizeOf201
  v79 := Tryz.zeroValue201
  i79 := by kernel_rfl
  t80 := Tryz.underlying202
  a80 := Tryz.isAgg202
  z80 := Tryz.sizeOf202
  v80 := Tryz.zeroValue202
  i80 := by kernel_rfl
  t82 := Tryz.underlying204
  a82 := Tryz.isAgg204
  z82 := Tryz.sizeOf204
  v82 := Tryz.zeroValue204
  i82 := by kernel_rfl }
end Go.Proofs

set_option linter.unusedVariables false
set_option linter.unusedSimpArgs false
namespace Go.Proofs.YtcopmdgcjnkiaaaGreat
open Go.RowKit Go.Shelf Go.Sort

def encP (p : Pr) : List Value := [.string p.1, .int .i64 p.2]
def ltP (p q : Pr) : Bool := ltB p.1 q.1
theorem swo_ltP : SWO ltP where
  irrefl := fun x => ltB_irrefl _
  trans := fun x y z h1 h2 => ltB_trans h1 h2
  ntrans := fun x y z h1 h2 => by
    unfold ltP at *
    cases h : ltB x.1 z.1
    · rfl
    · cases h3 : ltB z.1 y.1
      · have e := ltB_total h2 h3
        rw [← e, h1] at h; cases h
      · have := ltB_trans h h3
        rw [h1] at this; cases this

noncomputable def svT : TypeInfo := (Tryz.prog.info? 33).get (by kernel_rfl)
noncomputable def svE : TypeInfo := (Tryz.prog.info? 64).get (by kernel_rfl)
theorem svK (n : Nat) (h2 : 2 ≤ n) : Lib.swapperK n svE 25 = 9 := by
  have a : svE.hasPointers = true := by kernel_rfl
  have b : svE.bytes = 24 := by kernel_rfl
  have c : (n == 0) = false := by simp; omega
  have d : (n == 1) = false := by simp; omega
  simp [Lib.swapperK, a, b, c, d]

set_option maxHeartbeats 1000000 in
theorem less_any (blk c Bs size : Nat) (W : World) (G : Nat → ByteArray) (hs : W.cell? ⟨Bs, 0, none⟩ = some (.slice (some ⟨blk, 0, none⟩) size c))
    (hc : ∀ t, t < size → W.cell? ⟨blk, t * 2, none⟩ = some (.string (G t))) (i j : Nat) (hi : i < size) (hj : j < size) (_hsz : size < 4611686018427387904) :
    Calls Tryz.prog 59 #[.int .i64 i, .int .i64 j, .pointer (some ⟨Bs, 0, none⟩)] W fun e w' => e = .returned (.bool (ltB (G i) (G j))) ∧ ∃ q, w' = W.drewN q := by
  have ci := hc i hi
  have cj := hc j hj
  clear hc
  generalize G i = gi at ci
  generalize G j = gj at cj
  go_enter Tryz.func59, Tryz.ntmps59
  go_wp2
  go_quiet (fail)
  go_wp2
  go_ret
  exact ⟨rfl, nq, rfl⟩

theorem holdsP {w : World} {g : Nat} {cur : Array Value} {e : TypeId} {xs : List Pr} (hb : w.heap[g]? = some (.cells cur e (0, 0))) (ht : cur.toList.take (xs.length * 2) = cellsOf xs) : HoldsK encP 2 w g 0 xs.toArray := by
  intro j hj
  rw [size_flatK] at hj
  have hj' : j < xs.length * 2 := by simpa using hj
  refine ⟨?_, by simp [World.frozen?, hb]⟩
  rw [get_flatK _ _ _ _ hj]
  have h1 : (cur.toList.take (xs.length * 2))[j]? = (cellsOf xs)[j]? := by rw [ht]
  rw [List.getElem?_take_of_lt hj'] at h1
  simp only [World.cell?, hb, Nat.zero_add]
  have hi : j / 2 < xs.length := by omega
  have hg := cellsOf_get xs (j / 2) _ (List.getElem?_eq_getElem hi)
  have e1 : cur[j]? = (cellsOf xs)[j]? := by rw [← h1]; simp
  rw [e1]
  have e2 : xs.toArray[j / 2]! = xs[j / 2] := by simp [hi]
  rw [e2]
  rcases Nat.mod_two_eq_zero_or_one j with hm | hm
  · have : j / 2 * 2 = j := by omega
    rw [this] at hg
    rw [hm, hg.1]; rfl
  · have : j / 2 * 2 + 1 = j := by omega
    rw [this] at hg
    rw [hm, hg.2]; rfl

/-- what the sort leaves -/
def Sorted (w : World) (blk : Nat) (xs : List Pr) (e : Ending) (w' : World) : Prop :=
  e = .returned (.tuple #[]) ∧ ∃ ys : List Pr, ys.Perm xs ∧ ys.Pairwise (fun p q => ltB q.1 p.1 = false) ∧ PS w' w'.heap.size (some ⟨blk, 0, none⟩) ys ∧ w.grownBy w' (some blk)

theorem sort_many (blk c Bs : Nat) (xs : List Pr) (h2 : 2 ≤ xs.length) (hsz : xs.length < 4611686018427387904) (w : World) (hH : HoldsK encP 2 w blk 0 xs.toArray) (hblk : blk < w.heap.size)
    (hBs : w.cell? ⟨Bs, 0, none⟩ = some (.slice (some ⟨blk, 0, none⟩) xs.length c)) (hB1 : Bs < w.heap.size) (hB2 : Bs ≠ blk) :
    Calls Tryz.prog 58 #[.iface 33 (.slice (some ⟨blk, 0, none⟩) xs.length c), .func (.func 59) #[] #[.pointer (some ⟨Bs, 0, none⟩)]] w (Sorted w blk xs) := by
  have hless : LessReadsK Tryz.prog 59 #[.pointer (some ⟨Bs, 0, none⟩)] encP 2 ltP blk 0 xs.toArray.size w := by
    intro m os dk hs i j hi hj
    have e : sortWorldK encP 2 w blk 0 m dk os = putRowK encP 2 (grow (Sort.ahead w m) os) blk 0 dk := by
      unfold sortWorldK; rw [putRowK_grow _ _ (Sort.ahead w m) _ blk 0 _ hblk]
    have hHg : HoldsK encP 2 (grow (Sort.ahead w m) os) blk 0 xs.toArray := holdsK_grow _ _ _ _ blk 0 _ hblk (holdsK_ahead _ _ _ _ _ _ _ hH)
    refine less_any blk c Bs xs.toArray.size _ (fun t => dk[t]!.1) ?_ (fun t ht => ?_) i j hi hj (by simpa using hsz)
    · rw [e, cell?_putRowK_other _ _ _ blk 0 dk _ (by exact hB2), cell?_grow _ _ _ (by exact hB1)]; exact hBs
    · rw [e]
      have := ((holdsK_putRowK _ _ _ blk 0 xs.toArray dk hHg hs).cell (i := t) (c := 0) (by omega) (by omega)).1
      simpa [encP] using this
  have hS := Any.sort_Slice_cells_sorted Tryz.sv6 33 64 svT svE (by kernel_rfl) (by kernel_rfl) (by kernel_rfl) (by kernel_rfl) 25 (fun _ => by kernel_rfl) encP 2 (fun _ => rfl) (by kernel_rfl) (fun _ => by kernel_rfl)
    (fun x v hv => by simp [encP] at hv; rcases hv with rfl | rfl <;> rfl) ltP swo_ltP 59 #[.pointer (some ⟨Bs, 0, none⟩)]
    (enters_of Tryz.func59 (by kernel_rfl) rfl) blk 0 c xs.toArray (by simpa using h2) (by simpa using hsz) 98 (by rw [show xs.toArray.size = xs.length by simp, svK _ h2]; kernel_rfl) false
    (fun args W => run_callFunc_extern Tryz.func98 (by kernel_rfl) (by kernel_rfl) (by kernel_rfl) (e := Extern.ReflectliteSwapper.swap false) (by kernel_rfl) args W) w hless hH hblk
  change Calls Tryz.prog 58 _ _ _ at hS
  rw [show xs.toArray.size = xs.length by simp] at hS
  refine hS.mono ?_
  rintro e w' ⟨rfl, d', n, os, ⟨hps, _, hpp⟩, hso, rfl⟩
  have hps' : d'.size = xs.length := by simpa using hps
  refine ⟨rfl, d'.toList, ?_, ?_, ?_, ?_⟩
  · have e1 : d'.extract 0 xs.length = d' := by rw [← hps']; simp
    have e2 : xs.toArray.extract 0 xs.length = xs.toArray := by simp
    rw [e1, e2] at hpp
    simpa using hpp
  · rw [List.pairwise_iff_getElem]
    intro i j hi hj hij
    have := hso i j (Nat.zero_le _) hij (by simpa [hps'] using hj)
    simp only [Array.length_toList] at hi hj
    simpa [ltP, hi, hj] using this
  · intro i p hp
    have hi : i < d'.size := by
      rcases Nat.lt_or_ge i d'.size with h | h
      · exact h
      · simp [h] at hp
    have hp' : d'[i]! = p := by simp [hi] at hp; simp [hi, hp]
    have e : grow (putRowK encP 2 (Sort.ahead w n) blk 0 d') os = putRowK encP 2 (grow (Sort.ahead w n) os) blk 0 d' := by
      rw [putRowK_grow _ _ (Sort.ahead w n) _ blk 0 _ hblk]
    have hHg : HoldsK encP 2 (grow (Sort.ahead w n) os) blk 0 xs.toArray := holdsK_grow _ _ _ _ blk 0 _ hblk (holdsK_ahead _ _ _ _ _ _ _ hH)
    have hK := holdsK_putRowK _ _ _ blk 0 xs.toArray d' hHg hps
    have c0 := (hK.cell (i := i) (c := 0) hi (by omega)).1
    have c1 := (hK.cell (i := i) (c := 1) hi (by omega)).1
    rw [← e, hp'] at c0 c1
    refine ⟨blk, 0, rfl, ?_, by simpa [encP] using c0, by simpa [encP] using c1⟩
    have : (Sort.ahead w n).heap.size = w.heap.size := rfl
    simp [grow, putRowK, putRow, mapBlock, this]
    omega
  · refine ⟨rfl, rfl, rfl, by simp [grow, putRowK, putRow, mapBlock, Sort.ahead], fun k hk hne => ?_⟩
    have hne' : blk ≠ k := fun e => hne (by rw [e])
    rw [heap_grow_old _ _ (by simpa [putRowK, putRow, mapBlock, Sort.ahead] using hk)]
    simp [putRowK, putRow, mapBlock, Sort.ahead, Array.getElem?_modify, hne']
/-- what the sort leaves, of a row of the call's own -/
def SortedRow (w : World) (v : Value) (xs : List Pr) (e : Ending) (w' : World) : Prop :=
  e = .returned (.tuple #[]) ∧ ∃ ys : List Pr, ys.Perm xs ∧ ys.Pairwise (fun p q => ltB q.1 p.1 = false) ∧ (∃ A c, v = .slice A ys.length c ∧ SV w' A c ys) ∧ w.grownBy w' v.ownBlock

theorem sv0 : Lib.swapperK 0 svE 25 = 1 := by simp [Lib.swapperK]
theorem sv1 : Lib.swapperK 1 svE 25 = 2 := by simp [Lib.swapperK]
theorem sort_tiny (p : Option Addr) (n c : Nat) (h1 : n ≤ 1) (Bs : Nat) (w : World) :
    Calls Tryz.prog 58 #[.iface 33 (.slice p n c), .func (.func 59) #[] #[.pointer (some ⟨Bs, 0, none⟩)]] w fun e w' => e = .returned (.tuple #[]) ∧ ∃ os, w' = grow w os := by
  rcases (show n = 0 ∨ n = 1 by omega) with rfl | rfl
  · exact Any.sort_Slice_tiny Tryz.sv6 33 64 svT svE (by kernel_rfl) (by kernel_rfl) (by kernel_rfl) (by kernel_rfl) 25 (fun _ => by kernel_rfl) p 0 c h1 90 (by rw [sv0]; kernel_rfl) _ _ _ w
  · exact Any.sort_Slice_tiny Tryz.sv6 33 64 svT svE (by kernel_rfl) (by kernel_rfl) (by kernel_rfl) (by kernel_rfl) 25 (fun _ => by kernel_rfl) p 1 c h1 91 (by rw [sv1]; kernel_rfl) _ _ _ w

theorem grown_grow (w : World) (os : Array Obj) (row : Option Nat) : w.grownBy (grow w os) row := ⟨rfl, rfl, rfl, by simp [grow], fun k hk _ => heap_grow_old _ _ hk⟩
theorem SV.kept {w w' : World} {A : Option Addr} {c : Nat} {l : List Pr} (h : SV w A c l) (hg : w.grownBy w' none) : SV w' A c l :=
  h.below ⟨hg.os, hg.tape, hg.output, hg.size, fun k hk => hg.block k hk (by simp)⟩
theorem perm_one {xs : List Pr} (h : xs.length ≤ 1) : xs.Pairwise (fun p q => ltB q.1 p.1 = false) := by
  match xs, h with
  | [], _ => exact List.Pairwise.nil
  | [p], _ => simp

theorem sort_any (base Bs : Nat) (v : Value) (xs : List Pr) (w : World) (hown : w.ownsRow base 64 2 v xs.length (cellsOf xs)) (hsz : xs.length < 4611686018427387904)
    (hBs : w.cell? ⟨Bs, 0, none⟩ = some v) (hB1 : Bs < w.heap.size) (hB2 : v.ownBlock ≠ some Bs) :
    Calls Tryz.prog 58 #[.iface 33 v, .func (.func 59) #[] #[.pointer (some ⟨Bs, 0, none⟩)]] w (SortedRow w v xs) := by
  by_cases h2 : 2 ≤ xs.length
  · rcases hown.2 with ⟨_, h0⟩ | ⟨g, cap, cur, rfl, hbase, hb, h3, h4, h5, h6⟩
    · omega
    · have hgl : g < w.heap.size := (Array.getElem?_eq_some_iff.1 hb).1
      refine (sort_many g cap Bs xs h2 hsz w (holdsP hb h6) hgl hBs hB1 (fun e => hB2 (by simp [Value.ownBlock, e]))).mono ?_
      rintro e w' ⟨rfl, ys, hp, hs, hps, hg⟩
      refine ⟨rfl, ys, hp, hs, ⟨some ⟨g, 0, none⟩, cap, by rw [hp.length_eq], hps, by rw [hp.length_eq]; exact h3, h4, (fun e => by cases e), (fun _ a ha => by injection ha with ha; exact ⟨g, 0, ha.symm⟩)⟩, hg⟩
  · obtain ⟨A, c, rfl, hsv⟩ := SV.of_own hown
    refine (sort_tiny A xs.length c (by omega) Bs w).mono ?_
    rintro e w' ⟨rfl, os, rfl⟩
    exact ⟨rfl, xs, List.Perm.refl _, perm_one (by omega), ⟨A, c, rfl, hsv.kept (grown_grow w os none)⟩, grown_grow w os _⟩
end Go.Proofs.YtcopmdgcjnkiaaaGreat

set_option linter.unusedVariables false
set_option linter.unusedSimpArgs false
namespace Go.Proofs.YtcopmdgcjnkiaaaGreat
open Go.RowKit Go.Maps

/-- a key as a map's key -/
def kl (k : ByteArray) : Lit := .string k.data.toList
theorem kl_inj {a b : ByteArray} (h : kl a = kl b) : a = b := by
  unfold kl at h; injection h with h; exact by8_inj h
theorem same_kl {a b : ByteArray} (h : (kl a).sameKey (kl b) = true) : a = b := kl_inj (WideAt.sameKey_eq h)
theorem grown_setCell (w : World) (p : Addr) (u : Value) : w.grownBy (w.setCell p u) (some p.block) :=
  ⟨rfl, rfl, rfl, by simp [World.setCell], fun i _ hne => Below.heap_setCell w p u i (fun e => hne (by rw [e]))⟩
theorem box_set {w : World} {g : Nat} {v u : Value} {t : TypeId} (h : w.heap[g]? = some (.cells #[v] t)) : (w.setCell ⟨g, 0, none⟩ u).heap[g]? = some (.cells #[u] t) := by
  simp [World.setCell, Array.getElem?_modify, h]
theorem law9 : Keyed Tryz.prog 9 := string_keyed Tryz.underlying9
end Go.Proofs.YtcopmdgcjnkiaaaGreat
