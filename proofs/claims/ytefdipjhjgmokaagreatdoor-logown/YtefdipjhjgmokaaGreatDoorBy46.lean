/-
  The contract of sort.Slice that the library holds, laid at this dump.
  sort.Slice of pairs by their keys, as roref.List calls it.
  Keys of maps, boxed variables (no body of the program in it).
-/
import Derived.Shelf.Strings.SlTrimAscii
import Derived.Ground.NamesProg
import Derived.Shelf.SlSortFuncK.WholeK
import Derived.Ground.GgsProg
import Derived.Test.YtefdipjhjgmokaaGreatDoorProg
import Derived.Test.YtefdipjhjgmokaaGreatDoorBy8
import Derived.Test.YtefdipjhjgmokaaGreatDoorBy1
import Derived.Shelf.GgSortFunc.Tiny
import Derived.WalkKit
import Derived.WalkSpells
import Derived.WalkLawsBesides
import Derived.Deep.QuietTactic
import Derived.BigQuiet
import Derived.Maps.Own
import Derived.Maps.OwnOps
import Derived.Maps.OwnSet
namespace Go.Proofs
open Go.Shelf
def Tryz.sv6_ren : Go.Shelf.Ren := ⟨fun | 6 => 114 | 10 => 156 | 11 => 157 | 12 => 158 | 13 => 159 | 14 => 160 | 24 => 206 | 25 => 207 | 26 => 208 | 27 => 209 | 28 => 210 | 29 => 211 | 30 => 212 | 31 => 213 | 32 => 214 | 33 => 215 | 34 => 243 | 35 => 244 | 36 => 245 | 37 => 246 | 38 => 247 | 39 => 266 | n => n, fun | 20 => 20 | 26 => 177 | 35 => 222 | 0 => 0 | 37 => 224 | 3 => 3 | 41 => 171 | 44 => 229 | 49 => 250 | 51 => 147 | 4 => 4 | 54 => 270 | 53 => 269 | 58 => 154 | 5 => 5 | 9 => 9 | 60 => 295 | 64 => 299 | 66 => 314 | 67 => 315 | 17 => 17 | 32 => 219 | 33 => 220 | 82 => 338 | 12 => 12 | 75 => 332 | 76 => 333 | 77 => 334 | 78 => 275 | 79 => 335 | 80 => 336 | n => n, fun | n => n⟩
theorem Tryz.sv6 : Go.Proofs.LaysGg.n6 Tryz.prog Tryz.sv6_ren := {
  mixed := by kernel_rfl
  f6 := Tryz.func114.trans (congrArg some (by kernel_rfl))
  f10 := Tryz.func156.trans (congrArg some (by kernel_rfl))
  f11 := Tryz.func157.trans (congrArg some (by kernel_rfl))
  f12 := Tryz.func158.trans (congrArg some (by kernel_rfl))
  f13 := Tryz.func159.trans (congrArg some (by kernel_rfl))
  f14 := Tryz.func160.trans (congrArg some (by kernel_rfl))
  f24 := Tryz.func206.trans (congrArg some (by kernel_rfl))
  f25 := Tryz.func207.trans (congrArg some (by kernel_rfl))
  f26 := Tryz.func208.trans (congrArg some (by kernel_rfl))
  f27 := Tryz.func209.trans (congrArg some (by kernel_rfl))
  f28 := Tryz.func210.trans (congrArg some (by kernel_rfl))
  f29 := Tryz.func211.trans (congrArg some (by kernel_rfl))
  f30 := Tryz.func212.trans (congrArg some (by kernel_rfl))
  f31 := Tryz.func213.trans (congrArg some (by kernel_rfl))
  f32 := Tryz.func214.trans (congrArg some (by kernel_rfl))
  f33 := Tryz.func215.trans (congrArg some (by kernel_rfl))
  f34 := Tryz.func243.trans (congrArg some (by kernel_rfl))
  f35 := Tryz.func244.trans (congrArg some (by kernel_rfl))
  f36 := Tryz.func245.trans (congrArg some (by kernel_rfl))
  f37 := Tryz.func246.trans (congrArg some (by kernel_rfl))
  f38 := Tryz.func247.trans (congrArg some (by kernel_rfl))
  f39 := Tryz.func266.trans (congrArg some (by kernel_rfl))
  t0 := Tryz.underlying0
  a0 := Tryz.isAgg0
  z0 := Tryz.sizeOf0
  v0 := Tryz.zeroValue0
  i0 := by kernel_rfl
  t3 := Tryz.underlying3
  a3 := Tryz.isAgg3
  z3 := Tryz.sizeOf3
  v3 := Tryz.zeroValue3
  i3 := by kernel_rfl
  t4 := Tryz.underlying4
  a4 := Tryz.isAgg4
  z4 := Tryz.sizeOf4
  v4 := Tryz.zeroValue4
  i4 := by kernel_rfl
  t5 := Tryz.underlying5
  a5 := Tryz.isAgg5
  z5 := Tryz.sizeOf5
  v5 := Tryz.zeroValue5
  i5 := by kernel_rfl
  t9 := Tryz.underlying9
  a9 := Tryz.isAgg9
  z9 := Tryz.sizeOf9
  v9 := Tryz.zeroValue9
  i9 := by kernel_rfl
  t12 := Tryz.underlying12
  a12 := Tryz.isAgg12
  z12 := Tryz.sizeOf12
  v12 := Tryz.zeroValue12
  i12 := by kernel_rfl
  t17 := Tryz.underlying17
  a17 := Tryz.isAgg17
  z17 := Tryz.sizeOf17
  v17 := Tryz.zeroValue17
  i17 := by kernel_rfl
  t20 := Tryz.underlying20
  a20 := Tryz.isAgg20
  z20 := Tryz.sizeOf20
  v20 := Tryz.zeroValue20
  i20 := by kernel_rfl
  t26 := Tryz.underlying177
  a26 := Tryz.isAgg177
  z26 := Tryz.sizeOf177
  v26 := Tryz.zeroValue177
  i26 := by kernel_rfl
  t32 := Tryz.underlying219
  a32 := Tryz.isAgg219
  z32 := Tryz.sizeOf219
  v32 := Tryz.zeroValue219
  i32 := by kernel_rfl
  t33 := Tryz.underlying220
  a33 := Tryz.isAgg220
  z33 := Tryz.sizeOf220
  v33 := Tryz.zeroValue220
  i33 := by kernel_rfl
  t35 := Tryz.underlying222
  a35 := Tryz.isAgg222
  z35 := Tryz.sizeOf222
  v35 := Tryz.zeroValue222
  i35 := by kernel_rfl
  t37 := Tryz.underlying224
  a37 := Tryz.isAgg224
  z37 := Tryz.sizeOf224
  v37 := Tryz.zeroValue224
  i37 := by kernel_rfl
  t41 := Tryz.underlying171
  a41 := Tryz.isAgg171
  z41 := Tryz.sizeOf171
  v41 := Tryz.zeroValue171
  i41 := by kernel_rfl
  t44 := Tryz.underlying229
  a44 := Tryz.isAgg229
  z44 := Tryz.sizeOf229
  v44 := Tryz.zeroValue229
  i44 := by kernel_rfl
  t49 := Tryz.underlying250
  a49 := Tryz.isAgg250
  z49 := Tryz.sizeOf250
  v49 := Tryz.zeroValue250
  i49 := by kernel_rfl
  t51 := Tryz.underlying147
  a51 := Tryz.isAgg147
  z51 := Tryz.sizeOf147
  v51 := Tryz.zeroValue147
  i51 := by kernel_rfl
  t53 := Tryz.underlying269
  a53 := Tryz.isAgg269
  z53 := Tryz.sizeOf269
  v53 := Tryz.zeroValue269
  i53 := by kernel_rfl
  t54 := Tryz.underlying270
  a54 := Tryz.isAgg270
  z54 := Tryz.sizeOf270
  v54 := Tryz.zeroValue270
  i54 := by kernel_rfl
  t58 := Tryz.underlying154
  a58 := Tryz.isAgg154
  z58 := Tryz.sizeOf154
  v58 := Tryz.zeroValue154
  i58 := by kernel_rfl
  t60 := Tryz.underlying295
  a60 := Tryz.isAgg295
  z60 := Tryz.sizeOf295
  v60 := Tryz.zeroValue295
  i60 := by kernel_rfl
  t64 := Tryz.underlying299
  a64 := Tryz.isAgg299
  z64 := Tryz.sizeOf299
  v64 := Tryz.zeroValue299
  i64 := by kernel_rfl
  t66 := Tryz.underlying314
  a66 := Tryz.isAgg314
  z66 := Tryz.sizeOf314
  v66 := Tryz.zeroValue314
  i66 := by kernel_rfl
  t67 := Tryz.underlying315
  a67 := Tryz.isAgg315
  z67 := Tryz.sizeOf315
  v67 := Tryz.zeroValue315
  i67 := by kernel_rfl
  t75 := Tryz.underlying332
  a75 := Tryz.isAgg332
  z75 := Tryz.sizeOf332
  v75 := Tryz.zeroValue332
  i75 := by kernel_rfl
  t76 := Tryz.underlying333
  a76 := Tryz.isAgg333
  z76 := Tryz.sizeOf333
  v76 := Tryz.zeroValue333
  i76 := by kernel_rfl
  t77 := Tryz.underlying334
  a77 := Tryz.isAgg334
  z77 := Tryz.sizeOf334
  v77 := Tryz.zeroValue334
  i77 := by kernel_rfl
  t78 := Tryz.underlying275
  a78 := Tryz.isAgg275
  z78 := Tryz.sizeOf275
  v78 := Tryz.zeroValue275
  i78 := by kernel_rfl
  t79 := Tryz.underlying335
  a79 := Tryz.isAgg335
  z79 := Tryz.sizeOf335
  v79 := Tryz.zeroValue335
  i79 := by kernel_rfl
  t80 := Tryz.underlying336
  a80 := Tryz.isAgg336
  z80 := Tryz.sizeOf336
  v80 := Tryz.zeroValue336
  i80 := by kernel_rfl
  t82 := Tryz.underlying338
  a82 := Tryz.isAgg338
  z82 := Tryz.sizeOf338
  v82 := Tryz.zeroValue338
  i82 := by kernel_rfl }
def Tryz.trim_ren : Go.Shelf.Ren := ⟨fun | 160 => 153 | 232 => 191 | 231 => 190 | 227 => 192 | 234 => 194 | 233 => 193 | 236 => 196 | 235 => 195 | 228 => 222 | 271 => 242 | 151 => 241 | 197 => 240 | 120 => 265 | 152 => 220 | 260 => 264 | 137 => 126 | 119 => 252 | 224 => 232 | 225 => 231 | 217 => 171 | 266 => 223 | n => n, fun | 9 => 9 | 4 => 4 | 3 => 3 | 5 => 5 | 117 => 259 | 116 => 258 | 0 => 0 | 124 => 262 | 21 => 21 | 105 => 292 | 46 => 171 | 119 => 321 | 139 => 324 | 138 => 323 | n => n, fun | 3 => 4 | 4 => 5 | n => n⟩
theorem Tryz.trim : Go.Proofs.Lays.n160 Tryz.prog Tryz.trim_ren := {
  mixed := by kernel_rfl
  f119 := Tryz.func252.trans (congrArg some (by kernel_rfl))
  f120 := Tryz.func265.trans (congrArg some (by kernel_rfl))
  f137 := Tryz.func126.trans (congrArg some (by kernel_rfl))
  f151 := Tryz.func241.trans (congrArg some (by kernel_rfl))
  f152 := Tryz.func220.trans (congrArg some (by kernel_rfl))
  f160 := Tryz.func153.trans (congrArg some (by kernel_rfl))
  f197 := Tryz.func240.trans (congrArg some (by kernel_rfl))
  f217 := Tryz.func171.trans (congrArg some (by kernel_rfl))
  f224 := Tryz.func232.trans (congrArg some (by kernel_rfl))
  f225 := Tryz.func231.trans (congrArg some (by kernel_rfl))
  f227 := Tryz.func192.trans (congrArg some (by kernel_rfl))
  f228 := Tryz.func222.trans (congrArg some (by kernel_rfl))
  f231 := Tryz.func190.trans (congrArg some (by kernel_rfl))
  f232 := Tryz.func191.trans (congrArg some (by kernel_rfl))
  f233 := Tryz.func193.trans (congrArg some (by kernel_rfl))
  f234 := Tryz.func194.trans (congrArg some (by kernel_rfl))
  f235 := Tryz.func195.trans (congrArg some (by kernel_rfl))
  f236 := Tryz.func196.trans (congrArg some (by kernel_rfl))
  f260 := Tryz.func264.trans (congrArg some (by kernel_rfl))
  f266 := Tryz.func223.trans (congrArg some (by kernel_rfl))
  f271 := Tryz.func242.trans (congrArg some (by kernel_rfl))
  t0 := Tryz.underlying0
  a0 := Tryz.isAgg0
  z0 := Tryz.sizeOf0
  v0 := Tryz.zeroValue0
  t3 := Tryz.underlying3
  a3 := Tryz.isAgg3
  z3 := Tryz.sizeOf3
  v3 := Tryz.zeroValue3
  t4 := Tryz.underlying4
  a4 := Tryz.isAgg4
  z4 := Tryz.sizeOf4
  v4 := Tryz.zeroValue4
  t5 := Tryz.underlying5
  a5 := Tryz.isAgg5
  z5 := Tryz.sizeOf5
  v5 := Tryz.zeroValue5
  t9 := Tryz.underlying9
  a9 := Tryz.isAgg9
  z9 := Tryz.sizeOf9
  v9 := Tryz.zeroValue9
  t21 := Tryz.underlying21
  a21 := Tryz.isAgg21
  z21 := Tryz.sizeOf21
  v21 := Tryz.zeroValue21
  t46 := Tryz.underlying171
  a46 := Tryz.isAgg171
  z46 := Tryz.sizeOf171
  v46 := Tryz.zeroValue171
  t105 := Tryz.underlying292
  a105 := Tryz.isAgg292
  z105 := Tryz.sizeOf292
  v105 := Tryz.zeroValue292
  t116 := Tryz.underlying258
  a116 := Tryz.isAgg258
  z116 := Tryz.sizeOf258
  t117 := Tryz.underlying259
  a117 := Tryz.isAgg259
  z117 := Tryz.sizeOf259
  v117 := Tryz.zeroValue259
  t119 := Tryz.underlying321
  a119 := Tryz.isAgg321
  z119 := Tryz.sizeOf321
  t124 := Tryz.underlying262
  a124 := Tryz.isAgg262
  z124 := Tryz.sizeOf262
  v124 := Tryz.zeroValue262
  t138 := Tryz.underlying323
  a138 := Tryz.isAgg323
  z138 := Tryz.sizeOf323
  v138 := Tryz.zeroValue323
  t139 := Tryz.underlying324
  a139 := Tryz.isAgg324
  z139 := Tryz.sizeOf324
  v139 := Tryz.zeroValue324
  g3 := by kernel_rfl
  g4 := by kernel_rfl }
end Go.Proofs

set_option linter.unusedVariables false
set_option linter.unusedSimpArgs false
namespace Go.Proofs.YtefdipjhjgmokaaGreatDoor
open Go.RowKit Go.Shelf Go.Sort

def encP (p : Pr) : List Value := [.string p.1, .int .i64 p.2]
def ltP (p q : Pr) : Bool := ltB p.1 q.1
theorem swo_ltP : SWO ltP where
  irrefl := fun x => ltB_irrefl _
  trans := fun x y z h1 h2 => ltB_trans h1 h2
  ntrans := fun x y z h1 h2 => by
    unfold ltP at *
    cases h : ltB x.1 z.1
    · rfl
    · cases h3 : ltB z.1 y.1
      · have e := ltB_total h2 h3
        rw [← e, h1] at h; cases h
      · have := ltB_trans h h3
        rw [h1] at this; cases this

noncomputable def svT : TypeInfo := (Tryz.prog.info? 36).get (by kernel_rfl)
noncomputable def svE : TypeInfo := (Tryz.prog.info? 63).get (by kernel_rfl)
theorem svK (n : Nat) (h2 : 2 ≤ n) : Lib.swapperK n svE 25 = 9 := by
  have a : svE.hasPointers = true := by kernel_rfl
  have b : svE.bytes = 24 := by kernel_rfl
  have c : (n == 0) = false := by simp; omega
  have d : (n == 1) = false := by simp; omega
  simp [Lib.swapperK, a, b, c, d]

set_option maxHeartbeats 1000000 in
theorem less_any (blk c Bs size : Nat) (W : World) (G : Nat → ByteArray) (hs : W.cell? ⟨Bs, 0, none⟩ = some (.slice (some ⟨blk, 0, none⟩) size c))
    (hc : ∀ t, t < size → W.cell? ⟨blk, t * 2, none⟩ = some (.string (G t))) (i j : Nat) (hi : i < size) (hj : j < size) (_hsz : size < 4611686018427387904) :
    Calls Tryz.prog 115 #[.int .i64 i, .int .i64 j, .pointer (some ⟨Bs, 0, none⟩)] W fun e w' => e = .returned (.bool (ltB (G i) (G j))) ∧ ∃ q, w' = W.drewN q := by
  have ci := hc i hi
  have cj := hc j hj
  clear hc
  generalize G i = gi at ci
  generalize G j = gj at cj
  go_enter Tryz.func115, Tryz.ntmps115
  go_wp2
  go_quiet (fail)
  go_wp2
  go_ret
  exact ⟨rfl, nq, rfl⟩

theorem holdsP {w : World} {g : Nat} {cur : Array Value} {e : TypeId} {xs : List Pr} (hb : w.heap[g]? = some (.cells cur e (0, 0))) (ht : cur.toList.take (xs.length * 2) = cellsOf xs) : HoldsK encP 2 w g 0 xs.toArray := by
  intro j hj
  rw [size_flatK] at hj
  have hj' : j < xs.length * 2 := by simpa using hj
  refine ⟨?_, by simp [World.frozen?, hb]⟩
  rw [get_flatK _ _ _ _ hj]
  have h1 : (cur.toList.take (xs.length * 2))[j]? = (cellsOf xs)[j]? := by rw [ht]
  rw [List.getElem?_take_of_lt hj'] at h1
  simp only [World.cell?, hb, Nat.zero_add]
  have hi : j / 2 < xs.length := by omega
  have hg := cellsOf_get xs (j / 2) _ (List.getElem?_eq_getElem hi)
  have e1 : cur[j]? = (cellsOf xs)[j]? := by rw [← h1]; simp
  rw [e1]
  have e2 : xs.toArray[j / 2]! = xs[j / 2] := by simp [hi]
  rw [e2]
  rcases Nat.mod_two_eq_zero_or_one j with hm | hm
  · have : j / 2 * 2 = j := by omega
    rw [this] at hg
    rw [hm, hg.1]; rfl
  · have : j / 2 * 2 + 1 = j := by omega
    rw [this] at hg
    rw [hm, hg.2]; rfl

/-- what the sort leaves -/
def Sorted (w : World) (blk : Nat) (xs : List Pr) (e : Ending) (w' : World) : Prop :=
  e = .returned (.tuple #[]) ∧ ∃ ys : List Pr, ys.Perm xs ∧ ys.Pairwise (fun p q => ltB q.1 p.1 = false) ∧ PS w' w'.heap.size (some ⟨blk, 0, none⟩) ys ∧ w.grownBy w' (some blk)

theorem sort_many (blk c Bs : Nat) (xs : List Pr) (h2 : 2 ≤ xs.length) (hsz : xs.length < 4611686018427387904) (w : World) (hH : HoldsK encP 2 w blk 0 xs.toArray) (hblk : blk < w.heap.size)
    (hBs : w.cell? ⟨Bs, 0, none⟩ = some (.slice (some ⟨blk, 0, none⟩) xs.length c)) (hB1 : Bs < w.heap.size) (hB2 : Bs ≠ blk) :
    Calls Tryz.prog 114 #[.iface 36 (.slice (some ⟨blk, 0, none⟩) xs.length c), .func (.func 115) #[] #[.pointer (some ⟨Bs, 0, none⟩)]] w (Sorted w blk xs) := by
  have hless : LessReadsK Tryz.prog 115 #[.pointer (some ⟨Bs, 0, none⟩)] encP 2 ltP blk 0 xs.toArray.size w := by
    intro m os dk hs i j hi hj
    have e : sortWorldK encP 2 w blk 0 m dk os = putRowK encP 2 (grow (Sort.ahead w m) os) blk 0 dk := by
      unfold sortWorldK; rw [putRowK_grow _ _ (Sort.ahead w m) _ blk 0 _ hblk]
    have hHg : HoldsK encP 2 (grow (Sort.ahead w m) os) blk 0 xs.toArray := holdsK_grow _ _ _ _ blk 0 _ hblk (holdsK_ahead _ _ _ _ _ _ _ hH)
    refine less_any blk c Bs xs.toArray.size _ (fun t => dk[t]!.1) ?_ (fun t ht => ?_) i j hi hj (by simpa using hsz)
    · rw [e, cell?_putRowK_other _ _ _ blk 0 dk _ (by exact hB2), cell?_grow _ _ _ (by exact hB1)]; exact hBs
    · rw [e]
      have := ((holdsK_putRowK _ _ _ blk 0 xs.toArray dk hHg hs).cell (i := t) (c := 0) (by omega) (by omega)).1
      simpa [encP] using this
  have hS := Any.sort_Slice_cells_sorted Tryz.sv6 36 63 svT svE (by kernel_rfl) (by kernel_rfl) (by kernel_rfl) (by kernel_rfl) 25 (fun _ => by kernel_rfl) encP 2 (fun _ => rfl) (by kernel_rfl) (fun _ => by kernel_rfl)
    (fun x v hv => by simp [encP] at hv; rcases hv with rfl | rfl <;> rfl) ltP swo_ltP 115 #[.pointer (some ⟨Bs, 0, none⟩)]
    (enters_of Tryz.func115 (by kernel_rfl) rfl) blk 0 c xs.toArray (by simpa using h2) (by simpa using hsz) 205 (by rw [show xs.toArray.size = xs.length by simp, svK _ h2]; kernel_rfl) false
    (fun args W => run_callFunc_extern Tryz.func205 (by kernel_rfl) (by kernel_rfl) (by kernel_rfl) (e := Extern.ReflectliteSwapper.swap false) (by kernel_rfl) args W) w hless hH hblk
  change Calls Tryz.prog 114 _ _ _ at hS
  rw [show xs.toArray.size = xs.length by simp] at hS
  refine hS.mono ?_
  rintro e w' ⟨rfl, d', n, os, ⟨hps, _, hpp⟩, hso, rfl⟩
  have hps' : d'.size = xs.length := by simpa using hps
  refine ⟨rfl, d'.toList, ?_, ?_, ?_, ?_⟩
  · have e1 : d'.extract 0 xs.length = d' := by rw [← hps']; simp
    have e2 : xs.toArray.extract 0 xs.length = xs.toArray := by simp
    rw [e1, e2] at hpp
    simpa using hpp
  · rw [List.pairwise_iff_getElem]
    intro i j hi hj hij
    have := hso i j (Nat.zero_le _) hij (by simpa [hps'] using hj)
    simp only [Array.length_toList] at hi hj
    simpa [ltP, hi, hj] using this
  · intro i p hp
    have hi : i < d'.size := by
      rcases Nat.lt_or_ge i d'.size with h | h
      · exact h
      · simp [h] at hp
    have hp' : d'[i]! = p := by simp [hi] at hp; simp [hi, hp]
    have e : grow (putRowK encP 2 (Sort.ahead w n) blk 0 d') os = putRowK encP 2 (grow (Sort.ahead w n) os) blk 0 d' := by
      rw [putRowK_grow _ _ (Sort.ahead w n) _ blk 0 _ hblk]
    have hHg : HoldsK encP 2 (grow (Sort.ahead w n) os) blk 0 xs.toArray := holdsK_grow _ _ _ _ blk 0 _ hblk (holdsK_ahead _ _ _ _ _ _ _ hH)
    have hK := holdsK_putRowK _ _ _ blk 0 xs.toArray d' hHg hps
    have c0 := (hK.cell (i := i) (c := 0) hi (by omega)).1
    have c1 := (hK.cell (i := i) (c := 1) hi (by omega)).1
    rw [← e, hp'] at c0 c1
    refine ⟨blk, 0, rfl, ?_, by simpa [encP] using c0, by simpa [encP] using c1⟩
    have : (Sort.ahead w n).heap.size = w.heap.size := rfl
    simp [grow, putRowK, putRow, mapBlock, this]
    omega
  · refine ⟨rfl, rfl, rfl, by simp [grow, putRowK, putRow, mapBlock, Sort.ahead], fun k hk hne => ?_⟩
    have hne' : blk ≠ k := fun e => hne (by rw [e])
    rw [heap_grow_old _ _ (by simpa [putRowK, putRow, mapBlock, Sort.ahead] using hk)]
    simp [putRowK, putRow, mapBlock, Sort.ahead, Array.getElem?_modify, hne']
/-- what the sort leaves, of a row of the call's own -/
def SortedRow (w : World) (v : Value) (xs : List Pr) (e : Ending) (w' : World) : Prop :=
  e = .returned (.tuple #[]) ∧ ∃ ys : List Pr, ys.Perm xs ∧ ys.Pairwise (fun p q => ltB q.1 p.1 = false) ∧ (∃ A c, v = .slice A ys.length c ∧ SV w' A c ys) ∧ w.grownBy w' v.ownBlock

theorem sv0 : Lib.swapperK 0 svE 25 = 1 := by simp [Lib.swapperK]
theorem sv1 : Lib.swapperK 1 svE 25 = 2 := by simp [Lib.swapperK]
theorem sort_tiny (p : Option Addr) (n c : Nat) (h1 : n ≤ 1) (Bs : Nat) (w : World) :
    Calls Tryz.prog 114 #[.iface 36 (.slice p n c), .func (.func 115) #[] #[.pointer (some ⟨Bs, 0, none⟩)]] w fun e w' => e = .returned (.tuple #[]) ∧ ∃ os, w' = grow w os := by
  rcases (show n = 0 ∨ n = 1 by omega) with rfl | rfl
  · exact Any.sort_Slice_tiny Tryz.sv6 36 63 svT svE (by kernel_rfl) (by kernel_rfl) (by kernel_rfl) (by kernel_rfl) 25 (fun _ => by kernel_rfl) p 0 c h1 197 (by rw [sv0]; kernel_rfl) _ _ _ w
  · exact Any.sort_Slice_tiny Tryz.sv6 36 63 svT svE (by kernel_rfl) (by kernel_rfl) (by kernel_rfl) (by kernel_rfl) 25 (fun _ => by kernel_rfl) p 1 c h1 198 (by rw [sv1]; kernel_rfl) _ _ _ w

theorem grown_grow (w : World) (os : Array Obj) (row : Option Nat) : w.grownBy (grow w os) row := ⟨rfl, rfl, rfl, by simp [grow], fun k hk _ => heap_grow_old _ _ hk⟩
theorem SV.kept {w w' : World} {A : Option Addr} {c : Nat} {l : List Pr} (h : SV w A c l) (hg : w.grownBy w' none) : SV w' A c l :=
  h.below ⟨hg.os, hg.tape, hg.output, hg.size, fun k hk => hg.block k hk (by simp)⟩
theorem perm_one {xs : List Pr} (h : xs.length ≤ 1) : xs.Pairwise (fun p q => ltB q.1 p.1 = false) := by
  match xs, h with
  | [], _ => exact List.Pairwise.nil
  | [p], _ => simp

theorem sort_any (base Bs : Nat) (v : Value) (xs : List Pr) (w : World) (hown : w.ownsRow base 63 2 v xs.length (cellsOf xs)) (hsz : xs.length < 4611686018427387904)
    (hBs : w.cell? ⟨Bs, 0, none⟩ = some v) (hB1 : Bs < w.heap.size) (hB2 : v.ownBlock ≠ some Bs) :
    Calls Tryz.prog 114 #[.iface 36 v, .func (.func 115) #[] #[.pointer (some ⟨Bs, 0, none⟩)]] w (SortedRow w v xs) := by
  by_cases h2 : 2 ≤ xs.length
  · rcases hown.2 with ⟨_, h0⟩ | ⟨g, cap, cur, rfl, hbase, hb, h3, h4, h5, h6⟩
    · omega
    · have hgl : g < w.heap.size := (Array.getElem?_eq_some_iff.1 hb).1
      refine (sort_many g cap Bs xs h2 hsz w (holdsP hb h6) hgl hBs hB1 (fun e => hB2 (by simp [Value.ownBlock, e]))).mono ?_
      rintro e w' ⟨rfl, ys, hp, hs, hps, hg⟩
      refine ⟨rfl, ys, hp, hs, ⟨some ⟨g, 0, none⟩, cap, by rw [hp.length_eq], hps, by rw [hp.length_eq]; exact h3, h4, (fun e => by cases e), (fun _ a ha => by injection ha with ha; exact ⟨g, 0, ha.symm⟩)⟩, hg⟩
  · obtain ⟨A, c, rfl, hsv⟩ := SV.of_own hown
    refine (sort_tiny A xs.length c (by omega) Bs w).mono ?_
    rintro e w' ⟨rfl, os, rfl⟩
    exact ⟨rfl, xs, List.Perm.refl _, perm_one (by omega), ⟨A, c, rfl, hsv.kept (grown_grow w os none)⟩, grown_grow w os _⟩
end Go.Proofs.YtefdipjhjgmokaaGreatDoor

set_option linter.unusedVariables false
set_option linter.unusedSimpArgs false
namespace Go.Proofs.YtefdipjhjgmokaaGreatDoor
open Go.RowKit Go.Maps

/-- a key as a map's key -/
def kl (k : ByteArray) : Lit := .string k.data.toList
theorem kl_inj {a b : ByteArray} (h : kl a = kl b) : a = b := by
  unfold kl at h; injection h with h; exact by8_inj h
theorem same_kl {a b : ByteArray} (h : (kl a).sameKey (kl b) = true) : a = b := kl_inj (WideAt.sameKey_eq h)
theorem grown_setCell (w : World) (p : Addr) (u : Value) : w.grownBy (w.setCell p u) (some p.block) :=
  ⟨rfl, rfl, rfl, by simp [World.setCell], fun i _ hne => Below.heap_setCell w p u i (fun e => hne (by rw [e]))⟩
theorem box_set {w : World} {g : Nat} {v u : Value} {t : TypeId} (h : w.heap[g]? = some (.cells #[v] t)) : (w.setCell ⟨g, 0, none⟩ u).heap[g]? = some (.cells #[u] t) := by
  simp [World.setCell, Array.getElem?_modify, h]
theorem law9 : Keyed Tryz.prog 9 := string_keyed Tryz.underlying9
end Go.Proofs.YtefdipjhjgmokaaGreatDoor
