/-
  sort.Slice of pairs by their keys, as roref.List calls it.
  Keys of maps, boxed variables (no body of the program in it).
  roref.List: the values of a map as a sorted list of pairs.
-/
import Derived.Test.YtefdipjhjgmokaaGreatBv37
import Derived.Test.YtefdipjhjgmokaaGreatBv11
import Derived.Test.YtefdipjhjgmokaaGreatBv1
import Derived.Shelf.GgSortFunc.Tiny
import Derived.WalkKit
import Derived.WalkSpells
import Derived.WalkLawsBesides
import Derived.Deep.QuietTactic
import Derived.BigQuiet
import Derived.Test.YtefdipjhjgmokaaGreatProg
import Derived.Maps.Own
import Derived.Maps.OwnOps
import Derived.Maps.OwnSet
import Derived.Test.YtefdipjhjgmokaaGreatBv10
import Derived.Test.YtefdipjhjgmokaaGreatBv12
import Derived.Maps.RangeWalk
import Derived.Sort.KeysCollected
import Derived.Sort.OwnSorted
set_option linter.unusedVariables false
set_option linter.unusedSimpArgs false
namespace Go.Proofs.YtefdipjhjgmokaaGreat
open Go.RowKit Go.Shelf Go.Sort

def encP (p : Pr) : List Value := [.string p.1, .int .i64 p.2]
def ltP (p q : Pr) : Bool := ltB p.1 q.1
theorem swo_ltP : SWO ltP where
  irrefl := fun x => ltB_irrefl _
  trans := fun x y z h1 h2 => ltB_trans h1 h2
  ntrans := fun x y z h1 h2 => by
    unfold ltP at *
    cases h : ltB x.1 z.1
    · rfl
    · cases h3 : ltB z.1 y.1
      · have e := ltB_total h2 h3
        rw [← e, h1] at h; cases h
      · have := ltB_trans h h3
        rw [h1] at this; cases this

noncomputable def svT : TypeInfo := (Tryz.prog.info? 41).get (by kernel_rfl)
noncomputable def svE : TypeInfo := (Tryz.prog.info? 53).get (by kernel_rfl)
theorem svK (n : Nat) (h2 : 2 ≤ n) : Lib.swapperK n svE 25 = 9 := by
  have a : svE.hasPointers = true := by kernel_rfl
  have b : svE.bytes = 24 := by kernel_rfl
  have c : (n == 0) = false := by simp; omega
  have d : (n == 1) = false := by simp; omega
  simp [Lib.swapperK, a, b, c, d]

set_option maxHeartbeats 1000000 in
theorem less_any (blk c Bs size : Nat) (W : World) (G : Nat → ByteArray) (hs : W.cell? ⟨Bs, 0, none⟩ = some (.slice (some ⟨blk, 0, none⟩) size c))
    (hc : ∀ t, t < size → W.cell? ⟨blk, t * 2, none⟩ = some (.string (G t))) (i j : Nat) (hi : i < size) (hj : j < size) (_hsz : size < 4611686018427387904) :
    Calls Tryz.prog 64 #[.int .i64 i, .int .i64 j, .pointer (some ⟨Bs, 0, none⟩)] W fun e w' => e = .returned (.bool (ltB (G i) (G j))) ∧ ∃ q, w' = W.drewN q := by
  have ci := hc i hi
  have cj := hc j hj
  clear hc
  generalize G i = gi at ci
  generalize G j = gj at cj
  go_enter Tryz.func64, Tryz.ntmps64
  go_wp2
  go_quiet (fail)
  go_wp2
  go_ret
  exact ⟨rfl, nq, rfl⟩

theorem holdsP {w : World} {g : Nat} {cur : Array Value} {e : TypeId} {xs : List Pr} (hb : w.heap[g]? = some (.cells cur e (0, 0))) (ht : cur.toList.take (xs.length * 2) = cellsOf xs) : HoldsK encP 2 w g 0 xs.toArray := by
  intro j hj
  rw [size_flatK] at hj
  have hj' : j < xs.length * 2 := by simpa using hj
  refine ⟨?_, by simp [World.frozen?, hb]⟩
  rw [get_flatK _ _ _ _ hj]
  have h1 : (cur.toList.take (xs.length * 2))[j]? = (cellsOf xs)[j]? := by rw [ht]
  rw [List.getElem?_take_of_lt hj'] at h1
  simp only [World.cell?, hb, Nat.zero_add]
  have hi : j / 2 < xs.length := by omega
  have hg := cellsOf_get xs (j / 2) _ (List.getElem?_eq_getElem hi)
  have e1 : cur[j]? = (cellsOf xs)[j]? := by rw [← h1]; simp
  rw [e1]
  have e2 : xs.toArray[j / 2]! = xs[j / 2] := by simp [hi]
  rw [e2]
  rcases Nat.mod_two_eq_zero_or_one j with hm | hm
  · have : j / 2 * 2 = j := by omega
    rw [this] at hg
    rw [hm, hg.1]; rfl
  · have : j / 2 * 2 + 1 = j := by omega
    rw [this] at hg
    rw [hm, hg.2]; rfl

/-- what the sort leaves -/
def Sorted (w : World) (blk : Nat) (xs : List Pr) (e : Ending) (w' : World) : Prop :=
  e = .returned (.tuple #[]) ∧ ∃ ys : List Pr, ys.Perm xs ∧ ys.Pairwise (fun p q => ltB q.1 p.1 = false) ∧ PS w' w'.heap.size (some ⟨blk, 0, none⟩) ys ∧ w.grownBy w' (some blk)

theorem sort_many (blk c Bs : Nat) (xs : List Pr) (h2 : 2 ≤ xs.length) (hsz : xs.length < 4611686018427387904) (w : World) (hH : HoldsK encP 2 w blk 0 xs.toArray) (hblk : blk < w.heap.size)
    (hBs : w.cell? ⟨Bs, 0, none⟩ = some (.slice (some ⟨blk, 0, none⟩) xs.length c)) (hB1 : Bs < w.heap.size) (hB2 : Bs ≠ blk) :
    Calls Tryz.prog 63 #[.iface 41 (.slice (some ⟨blk, 0, none⟩) xs.length c), .func (.func 64) #[] #[.pointer (some ⟨Bs, 0, none⟩)]] w (Sorted w blk xs) := by
  have hless : LessReadsK Tryz.prog 64 #[.pointer (some ⟨Bs, 0, none⟩)] encP 2 ltP blk 0 xs.toArray.size w := by
    intro m os dk hs i j hi hj
    have e : sortWorldK encP 2 w blk 0 m dk os = putRowK encP 2 (grow (Sort.ahead w m) os) blk 0 dk := by
      unfold sortWorldK; rw [putRowK_grow _ _ (Sort.ahead w m) _ blk 0 _ hblk]
    have hHg : HoldsK encP 2 (grow (Sort.ahead w m) os) blk 0 xs.toArray := holdsK_grow _ _ _ _ blk 0 _ hblk (holdsK_ahead _ _ _ _ _ _ _ hH)
    refine less_any blk c Bs xs.toArray.size _ (fun t => dk[t]!.1) ?_ (fun t ht => ?_) i j hi hj (by simpa using hsz)
    · rw [e, cell?_putRowK_other _ _ _ blk 0 dk _ (by exact hB2), cell?_grow _ _ _ (by exact hB1)]; exact hBs
    · rw [e]
      have := ((holdsK_putRowK _ _ _ blk 0 xs.toArray dk hHg hs).cell (i := t) (c := 0) (by omega) (by omega)).1
      simpa [encP] using this
  have hS := Any.sort_Slice_cells_sorted Tryz.sv6 41 53 svT svE (by kernel_rfl) (by kernel_rfl) (by kernel_rfl) (by kernel_rfl) 25 (fun _ => by kernel_rfl) encP 2 (fun _ => rfl) (by kernel_rfl) (fun _ => by kernel_rfl)
    (fun x v hv => by simp [encP] at hv; rcases hv with rfl | rfl <;> rfl) ltP swo_ltP 64 #[.pointer (some ⟨Bs, 0, none⟩)]
    (enters_of Tryz.func64 (by kernel_rfl) rfl) blk 0 c xs.toArray (by simpa using h2) (by simpa using hsz) 124 (by rw [show xs.toArray.size = xs.length by simp, svK _ h2]; kernel_rfl) false
    (fun args W => run_callFunc_extern Tryz.func124 (by kernel_rfl) (by kernel_rfl) (by kernel_rfl) (e := Extern.ReflectliteSwapper.swap false) (by kernel_rfl) args W) w hless hH hblk
  change Calls Tryz.prog 63 _ _ _ at hS
  rw [show xs.toArray.size = xs.length by simp] at hS
  refine hS.mono ?_
  rintro e w' ⟨rfl, d', n, os, ⟨hps, _, hpp⟩, hso, rfl⟩
  have hps' : d'.size = xs.length := by simpa using hps
  refine ⟨rfl, d'.toList, ?_, ?_, ?_, ?_⟩
  · have e1 : d'.extract 0 xs.length = d' := by rw [← hps']; simp
    have e2 : xs.toArray.extract 0 xs.length = xs.toArray := by simp
    rw [e1, e2] at hpp
    simpa using hpp
  · rw [List.pairwise_iff_getElem]
    intro i j hi hj hij
    have := hso i j (Nat.zero_le _) hij (by simpa [hps'] using hj)
    simp only [Array.length_toList] at hi hj
    simpa [ltP, hi, hj] using this
  · intro i p hp
    have hi : i < d'.size := by
      rcases Nat.lt_or_ge i d'.size with h | h
      · exact h
      · simp [h] at hp
    have hp' : d'[i]! = p := by simp [hi] at hp; simp [hi, hp]
    have e : grow (putRowK encP 2 (Sort.ahead w n) blk 0 d') os = putRowK encP 2 (grow (Sort.ahead w n) os) blk 0 d' := by
      rw [putRowK_grow _ _ (Sort.ahead w n) _ blk 0 _ hblk]
    have hHg : HoldsK encP 2 (grow (Sort.ahead w n) os) blk 0 xs.toArray := holdsK_grow _ _ _ _ blk 0 _ hblk (holdsK_ahead _ _ _ _ _ _ _ hH)
    have hK := holdsK_putRowK _ _ _ blk 0 xs.toArray d' hHg hps
    have c0 := (hK.cell (i := i) (c := 0) hi (by omega)).1
    have c1 := (hK.cell (i := i) (c := 1) hi (by omega)).1
    rw [← e, hp'] at c0 c1
    refine ⟨blk, 0, rfl, ?_, by simpa [encP] using c0, by simpa [encP] using c1⟩
    have : (Sort.ahead w n).heap.size = w.heap.size := rfl
    simp [grow, putRowK, putRow, mapBlock, this]
    omega
  · refine ⟨rfl, rfl, rfl, by simp [grow, putRowK, putRow, mapBlock, Sort.ahead], fun k hk hne => ?_⟩
    have hne' : blk ≠ k := fun e => hne (by rw [e])
    rw [heap_grow_old _ _ (by simpa [putRowK, putRow, mapBlock, Sort.ahead] using hk)]
    simp [putRowK, putRow, mapBlock, Sort.ahead, Array.getElem?_modify, hne']
/-- what the sort leaves, of a row of the call's own -/
def SortedRow (w : World) (v : Value) (xs : List Pr) (e : Ending) (w' : World) : Prop :=
  e = .returned (.tuple #[]) ∧ ∃ ys : List Pr, ys.Perm xs ∧ ys.Pairwise (fun p q => ltB q.1 p.1 = false) ∧ (∃ A c, v = .slice A ys.length c ∧ SV w' A c ys) ∧ w.grownBy w' v.ownBlock

theorem sv0 : Lib.swapperK 0 svE 25 = 1 := by simp [Lib.swapperK]
theorem sv1 : Lib.swapperK 1 svE 25 = 2 := by simp [Lib.swapperK]
theorem sort_tiny (p : Option Addr) (n c : Nat) (h1 : n ≤ 1) (Bs : Nat) (w : World) :
    Calls Tryz.prog 63 #[.iface 41 (.slice p n c), .func (.func 64) #[] #[.pointer (some ⟨Bs, 0, none⟩)]] w fun e w' => e = .returned (.tuple #[]) ∧ ∃ os, w' = grow w os := by
  rcases (show n = 0 ∨ n = 1 by omega) with rfl | rfl
  · exact Any.sort_Slice_tiny Tryz.sv6 41 53 svT svE (by kernel_rfl) (by kernel_rfl) (by kernel_rfl) (by kernel_rfl) 25 (fun _ => by kernel_rfl) p 0 c h1 116 (by rw [sv0]; kernel_rfl) _ _ _ w
  · exact Any.sort_Slice_tiny Tryz.sv6 41 53 svT svE (by kernel_rfl) (by kernel_rfl) (by kernel_rfl) (by kernel_rfl) 25 (fun _ => by kernel_rfl) p 1 c h1 117 (by rw [sv1]; kernel_rfl) _ _ _ w

theorem grown_grow (w : World) (os : Array Obj) (row : Option Nat) : w.grownBy (grow w os) row := ⟨rfl, rfl, rfl, by simp [grow], fun k hk _ => heap_grow_old _ _ hk⟩
theorem SV.kept {w w' : World} {A : Option Addr} {c : Nat} {l : List Pr} (h : SV w A c l) (hg : w.grownBy w' none) : SV w' A c l :=
  h.below ⟨hg.os, hg.tape, hg.output, hg.size, fun k hk => hg.block k hk (by simp)⟩
theorem perm_one {xs : List Pr} (h : xs.length ≤ 1) : xs.Pairwise (fun p q => ltB q.1 p.1 = false) := by
  match xs, h with
  | [], _ => exact List.Pairwise.nil
  | [p], _ => simp

theorem sort_any (base Bs : Nat) (v : Value) (xs : List Pr) (w : World) (hown : w.ownsRow base 53 2 v xs.length (cellsOf xs)) (hsz : xs.length < 4611686018427387904)
    (hBs : w.cell? ⟨Bs, 0, none⟩ = some v) (hB1 : Bs < w.heap.size) (hB2 : v.ownBlock ≠ some Bs) :
    Calls Tryz.prog 63 #[.iface 41 v, .func (.func 64) #[] #[.pointer (some ⟨Bs, 0, none⟩)]] w (SortedRow w v xs) := by
  by_cases h2 : 2 ≤ xs.length
  · rcases hown.2 with ⟨_, h0⟩ | ⟨g, cap, cur, rfl, hbase, hb, h3, h4, h5, h6⟩
    · omega
    · have hgl : g < w.heap.size := (Array.getElem?_eq_some_iff.1 hb).1
      refine (sort_many g cap Bs xs h2 hsz w (holdsP hb h6) hgl hBs hB1 (fun e => hB2 (by simp [Value.ownBlock, e]))).mono ?_
      rintro e w' ⟨rfl, ys, hp, hs, hps, hg⟩
      refine ⟨rfl, ys, hp, hs, ⟨some ⟨g, 0, none⟩, cap, by rw [hp.length_eq], hps, by rw [hp.length_eq]; exact h3, h4, (fun e => by cases e), (fun _ a ha => by injection ha with ha; exact ⟨g, 0, ha.symm⟩)⟩, hg⟩
  · obtain ⟨A, c, rfl, hsv⟩ := SV.of_own hown
    refine (sort_tiny A xs.length c (by omega) Bs w).mono ?_
    rintro e w' ⟨rfl, os, rfl⟩
    exact ⟨rfl, xs, List.Perm.refl _, perm_one (by omega), ⟨A, c, rfl, hsv.kept (grown_grow w os none)⟩, grown_grow w os _⟩
end Go.Proofs.YtefdipjhjgmokaaGreat

set_option linter.unusedVariables false
set_option linter.unusedSimpArgs false
namespace Go.Proofs.YtefdipjhjgmokaaGreat
open Go.RowKit Go.Maps

/-- a key as a map's key -/
def kl (k : ByteArray) : Lit := .string k.data.toList
theorem kl_inj {a b : ByteArray} (h : kl a = kl b) : a = b := by
  unfold kl at h; injection h with h; exact by8_inj h
theorem same_kl {a b : ByteArray} (h : (kl a).sameKey (kl b) = true) : a = b := kl_inj (WideAt.sameKey_eq h)
theorem grown_setCell (w : World) (p : Addr) (u : Value) : w.grownBy (w.setCell p u) (some p.block) :=
  ⟨rfl, rfl, rfl, by simp [World.setCell], fun i _ hne => Below.heap_setCell w p u i (fun e => hne (by rw [e]))⟩
theorem box_set {w : World} {g : Nat} {v u : Value} {t : TypeId} (h : w.heap[g]? = some (.cells #[v] t)) : (w.setCell ⟨g, 0, none⟩ u).heap[g]? = some (.cells #[u] t) := by
  simp [World.setCell, Array.getElem?_modify, h]
theorem law9 : Keyed Tryz.prog 9 := string_keyed Tryz.underlying9
end Go.Proofs.YtefdipjhjgmokaaGreat

set_option linter.unusedVariables false
set_option linter.unusedSimpArgs false
namespace Go.Proofs.YtefdipjhjgmokaaGreat
open Go.RowKit Go.Maps

/-- the value of a key in a map, 0 if there is none -/
def mv (D : DataW Unit) (k : ByteArray) : Int := match D.atKey (kl k) (.lit (.int .i64 0)) with
  | .lit (.int _ c) => c
  | _ => 0
theorem mv_of {D : DataW Unit} {k : ByteArray} {c : Int} (h : ∀ z, D.atKey (kl k) z = .lit (.int .i64 c)) : mv D k = c := by unfold mv; rw [h]
theorem mv_none {D : DataW Unit} {k : ByteArray} (h : Maps.has D (kl k) = false) : mv D k = 0 := by unfold mv; rw [atKey_of_not_has h]
theorem mv_put_same {D : DataW Unit} (hD : IsMap D) (k : ByteArray) (c : Int) : mv (D.put (kl k) (.lit (.int .i64 c))) k = c := by unfold mv; rw [atKey_put_same hD (k := kl k) (show WideAt.IsKeyLit (kl k) from trivial)]
theorem mv_put_other {D : DataW Unit} {k j : ByteArray} (h : j ≠ k) (c : Int) : mv (D.put (kl k) (.lit (.int .i64 c))) j = mv D j := by
  unfold mv; rw [atKey_put_other (fun e => h (kl_inj e))]
theorem mv_empty (k : ByteArray) : mv (.map []) k = 0 := rfl

/-- what has been gathered of a map, while some of it is still to come -/
structure Coll (D : DataW Unit) (left : Lit → Bool) (xs : List Pr) : Prop where
  sound : ∀ p ∈ xs, p.2 ≠ 0 ∧ mv D p.1 = p.2 ∧ left (kl p.1) = false
  full : ∀ k, left (kl k) = false → mv D k ≠ 0 → (k, mv D k) ∈ xs
  nodup : xs.Pairwise (fun p q => p.1 ≠ q.1)
theorem Coll.start (D : DataW Unit) : Coll D (Maps.has D) [] := ⟨by simp, fun k h1 h2 => absurd (mv_none h1) h2, List.Pairwise.nil⟩
theorem Coll.zero {D : DataW Unit} {left : Lit → Bool} {xs : List Pr} (h : Coll D left xs) {x : ByteArray} (hv : mv D x = 0) : Coll D (fun z => left z && !z.sameKey (kl x)) xs := by
  refine ⟨fun p hp => ?_, fun k h1 h2 => ?_, h.nodup⟩
  · obtain ⟨a, b, c⟩ := h.sound p hp
    exact ⟨a, b, by simp [c]⟩
  · cases hl : left (kl k)
    · exact h.full k hl h2
    · have : (kl k).sameKey (kl x) = true := by simpa [hl] using h1
      rw [same_kl this, hv] at h2; exact absurd rfl h2
theorem Coll.step {D : DataW Unit} {left : Lit → Bool} {xs : List Pr} (h : Coll D left xs) {x : ByteArray} {c : Int} (hx : left (kl x) = true) (hc : mv D x = c) (h0 : c ≠ 0) : Coll D (fun z => left z && !z.sameKey (kl x)) (xs ++ [(x, c)]) := by
  refine ⟨fun p hp => ?_, fun k h1 h2 => ?_, ?_⟩
  · rcases List.mem_append.1 hp with hp | hp
    · obtain ⟨a, b, c⟩ := h.sound p hp
      exact ⟨a, b, by simp [c]⟩
    · simp at hp; subst hp
      exact ⟨h0, hc, by simp [kl, Lit.sameKey]⟩
  · cases hl : left (kl k)
    · exact List.mem_append.2 (.inl (h.full k hl h2))
    · have : (kl k).sameKey (kl x) = true := by simpa [hl] using h1
      obtain rfl := same_kl this
      simp [hc]
  · rw [List.pairwise_append]
    refine ⟨h.nodup, by simp, fun p hp q hq e => ?_⟩
    simp at hq; subst hq
    have := (h.sound p hp).2.2
    simp only at e
    rw [e, hx] at this; cases this

/-- a map as a sorted list -/
structure Lists (D : DataW Unit) (l : List Pr) : Prop where
  srt : l.Pairwise (fun p q => ltB p.1 q.1 = true)
  nz : ∀ p ∈ l, p.2 ≠ 0
  val : ∀ k, valOf l k = mv D k
theorem Coll.lists {D : DataW Unit} {left : Lit → Bool} {xs ys : List Pr} (h : Coll D left xs) (hl : ∀ z, left z = false) (hp : ys.Perm xs) (hs : ys.Pairwise (fun p q => ltB q.1 p.1 = false)) : Lists D ys := by
  have hn : ys.Pairwise (fun p q => p.1 ≠ q.1) := (hp.pairwise_iff (fun {a b} (e : a.1 ≠ b.1) => Ne.symm e)).2 h.nodup
  have hsrt : ys.Pairwise (fun p q => ltB p.1 q.1 = true) := by
    refine List.Pairwise.imp ?_ (hs.and hn)
    rintro p q ⟨h1, h2⟩
    cases h3 : ltB p.1 q.1
    · exact absurd (ltB_total h3 h1) h2
    · rfl
  refine ⟨hsrt, fun p hq => (h.sound p (hp.mem_iff.1 hq)).1, fun k => ?_⟩
  by_cases h0 : mv D k = 0
  · rw [h0]
    refine valOf_none fun p hq e => ?_
    obtain ⟨a, b, _⟩ := h.sound p (hp.mem_iff.1 hq)
    rw [e, h0] at b; exact a b.symm
  · exact valOf_mem (p := (k, mv D k)) hsrt (hp.mem_iff.2 (h.full k (hl _) h0))

/-- a sorted list of a map's values is handed back -/
def RetList (w : World) (D : DataW Unit) (e : Ending) (w' : World) : Prop := ∃ A c l, e = .returned (.slice A l.length c) ∧ SV w' A c l ∧ Lists D l ∧ l.length ≤ Maps.size D ∧ Below w.heap.size w w'

/-- the same, in a new block -/
def RetListF (w : World) (D : DataW Unit) (e : Ending) (w' : World) : Prop := ∃ A c l, e = .returned (.slice A l.length c) ∧ SV w' A c l ∧ Lists D l ∧ l.length ≤ Maps.size D ∧ Below w.heap.size w w' ∧ ∀ a, A = some a → w.heap.size ≤ a.block
set_option maxRecDepth 100000 in
set_option maxHeartbeats 1000000 in
theorem list_fr (b n : Nat) (D : DataW Unit) (w : World) (hown : w.ownsMap Tryz.prog 9 (plainElem Tryz.prog 3) b n D) (hsz : Maps.size D * 24 ≤ 140737488355328) :
    Calls Tryz.prog 34 #[.map (some b)] w (RetListF w D) := by
  have hbl := hown.lt
  go_enter Tryz.func34, Tryz.ntmps34
  go_wp2_with (first
    | (at_range; refine wpList_range_own _ rfl _ 90 rfl 9 3 law9 Tryz.underlying90 _ b n _ rfl (hown.alloc _) ?_; intro w0 hrg0 hg0 hs0)
    | go_in)
  go_frame
  have e1 : (w.alloc (.cells #[.slice none 0 0] 41)).heap.size = w.heap.size + 1 := by simp
  rw [e1] at hrg0 hs0 ⊢
  have hb0 : Below w.heap.size w w0 := ((Below.refl _ w).alloc (Nat.le_refl _) _).grown hg0 (by simp) (fun j hj => by cases hj)
  have hbox : w0.heap[w.heap.size]? = some (.cells #[.slice none 0 0] 41) := (hg0.block _ (by simp) (by simp)).trans (heap_alloc_new w _)
  have hs1 : w.heap.size + 2 ≤ w0.heap.size := by omega
  clear hg0 hs0 e1
  go_loopw [4] (fun _ wr => ∃ (left : Lit → Bool) (cnt : Nat) (v : Value) (xs : List Pr), wr.ranges Tryz.prog 9 (plainElem Tryz.prog 3) b (w.heap.size + 1) n D left cnt ∧ xs.length + cnt ≤ Maps.size D ∧
      wr.heap[w.heap.size]? = some (.cells #[v] 41) ∧ wr.ownsRow (w.heap.size + 2) 53 2 v xs.length (cellsOf xs) ∧ Coll D left xs ∧ w.heap.size + 2 ≤ wr.heap.size ∧ Below w.heap.size w wr)
    (fun _ wr => wr.rangeLeft b (w.heap.size + 1))
  case atStart => exact ⟨_, _, _, [], hrg0, by simp, hbox, World.ownsRow_nil _ _ _ _, Coll.start D, hs1, hb0⟩
  case round =>
    obtain ⟨left, cnt, v, xs, hrg, hcs, hbx, hrow, hC, hsz1, hnx⟩ := hrel
    clear hrg0 hb0 hbox hs1
    go_wp2_with (first
      | (at_next; refine wpList_next_ranges _ rfl _ rfl 9 law9 (plainElem Tryz.prog 3) Value.string (Value.int .i64) (fun key kl hk => by obtain ⟨x, hx, _⟩ := Maps.keyOf_str Tryz.underlying9 hk; exact ⟨_, hx⟩) (fun v y hv => by obtain ⟨c, rfl, _⟩ := plainElem_int_inv Tryz.underlying3 hv; exact ⟨c, rfl⟩) b (w.heap.size + 1) n _ _ _ rfl hrg ?_ ?_)
      | go_in)
    · intro hc0 hl0
      have q1 : wr.cell? ⟨w.heap.size, 0, none⟩ = some v := by simp [World.cell?, hbx]
      have hB2 : v.ownBlock ≠ some w.heap.size := fun e => by have := (hrow.lt _ e).1; omega
      have hsort := sort_any (w.heap.size + 2) w.heap.size v xs wr hrow (by omega) q1 (by omega) hB2
      go_wp2_with fail
      refine hsort.mono ?_
      rintro e w' ⟨rfl, ys, hp, hs, ⟨A, c, hv, hsv⟩, hg⟩
      have q2 : w'.cell? ⟨w.heap.size, 0, none⟩ = some v := (World.cell?_of_block (hg.block w.heap.size (by omega) (fun e => hB2 e.symm))).trans q1
      have hfin : RetListF w D (.returned v) w' := by
        have hb' : Below w.heap.size w w' := hnx.grown hg hnx.size (fun j hj => by have := (hrow.lt j hj).1; omega)
        exact ⟨A, c, ys, by rw [hv], hsv, hC.lists hl0 hp hs, by have := hp.length_eq; omega, hb', fun a ha => by have := (hrow.lt a.block (by rw [hv, ha]; rfl)).1; omega⟩
      have HF := hideP hfin
      clear hfin hsort q1 hv hsv hg hrg hC
      go_wp2_with fail
      go_ret
      exact HF.out
    · intro x c kl' yd yp w2 cnt2 hkey hlk hv hat hrg2 hlt hg2 hs2 hen
      obtain ⟨x', ex, rfl, _⟩ := Maps.keyOf_str Tryz.underlying9 hkey
      obtain rfl : x' = x.data.toList := by unfold encStr at ex; injection ex with ex; rw [ex]
      obtain ⟨c', ec, hyd, _⟩ := plainElem_int_inv Tryz.underlying3 hv
      obtain rfl : c = c' := by injection ec
      have hmv : mv D x = c := mv_of (k := x) (fun z => by rw [show kl x = .string x.data.toList from rfl, hat z]; exact congrArg Prod.fst hyd)
      have hrow2 := hrow.kept hg2 (Or.inr (row_ne_iter hrow hrg).symm)
      have hbx2 : w2.heap[w.heap.size]? = some (.cells #[v] 41) := (hg2.block _ (by omega) (by simp)).trans hbx
      have hnx2 : Below w.heap.size w w2 := hnx.grown hg2 hnx.size (fun j hj => by cases hj; omega)
      have hsz2 : w.heap.size + 2 ≤ w2.heap.size := by omega
      clear hs2 hkey hv hat hyd ec ex hg2 hnx hbx hrow
      have hlk' : left (kl x) = true := hlk
      by_cases h0 : c = 0
      · have d0 : (c != 0) = false := by simp [h0]
        have HC := hideP (hC.zero (x := x) (by rw [hmv, h0]))
        clear h0 hmv hlk hlk'
        go_wp2_with fail
        go_roundw
        case rel => exact ⟨_, cnt2, v, xs, hrg2, by omega, hbx2, hrow2, HC.out, hsz2, hnx2⟩
        case measure => rw [hrg2.left_eq, hrg.left_eq]; exact hlt
      · have d0 : (c != 0) = true := by simp [h0]
        have HC := hideP (hC.step hlk' hmv h0)
        clear h0 hmv hlk hlk'
        have q1 : w2.cell? ⟨w.heap.size, 0, none⟩ = some v := by simp [World.cell?, hbx2]
        obtain ⟨v', w3, hrun, hown', hg3, hloc⟩ := app_pairs (w2.alloc (.cells #[.string x, .int .i64 c] 53)) (w.heap.size + 2) 41 v xs (hrow2.alloc _) _ (some ⟨w2.heap.size, 0, none⟩) 1 [(x, c)] (PS.one w2 x c 53) (by simp; omega) (by simp; omega)
        have hB2 : v.ownBlock ≠ some w.heap.size := fun e => by have := (hrow2.lt _ e).1; omega
        have hbx3 : w3.heap[w.heap.size]? = some (.cells #[v] 41) := (hg3.block _ (by simp; omega) (fun e => hB2 e.symm)).trans ((Below.heap_alloc w2 _ _ (by omega)).trans hbx2)
        have q3 : w3.cell? ⟨w.heap.size, 0, none⟩ = some v := by simp [World.cell?, hbx3]
        have q4 : w3.frozen? ⟨w.heap.size, 0, none⟩ = false := by simp [World.frozen?, hbx3]
        have hsz3 : w.heap.size + 2 ≤ w3.heap.size := by have := hg3.size; simp at this; omega
        have hnx3 : Below w.heap.size w w3 := (hnx2.alloc (by omega) _).grown hg3 (by simp; omega) (fun j hj => by have := (hrow2.lt j hj).1; omega)
        have hrg3 := (hrg2.alloc (.cells #[.string x, .int .i64 c] 53)).kept hg3 (fun e => by have := (hrow2.lt _ e.symm).1; omega) (row_ne_iter (hrow2.alloc (.cells #[.string x, .int .i64 c] 53)) (hrg2.alloc _))
        obtain ⟨A', c', hv', hsv'⟩ := SV.of_own hown'
        subst hv'
        have HR := hideP hrun
        have hrow4 := ownsRow_setCell_below hown' (a := ⟨w.heap.size, 0, none⟩) (by simp) (.slice A' (xs ++ [(x, c)]).length c')
        have hbx4 := box_set (u := .slice A' (xs ++ [(x, c)]).length c') hbx3
        have hrg4 := hrg3.kept (grown_setCell w3 ⟨w.heap.size, 0, none⟩ (.slice A' (xs ++ [(x, c)]).length c')) (fun e => by simp at e; omega) (fun e => by simp at e)
        have hnx4 := hnx3.setCell (p := ⟨w.heap.size, 0, none⟩) (Nat.le_refl _) (.slice A' (xs ++ [(x, c)]).length c')
        have hsz4 : w.heap.size + 2 ≤ (w3.setCell ⟨w.heap.size, 0, none⟩ (.slice A' (xs ++ [(x, c)]).length c')).heap.size := by simpa [World.setCell] using hsz3
        have hle4 : (xs ++ [(x, c)]).length + cnt2 ≤ Maps.size D := by simp; omega
        clear hrun hown' hsv' hrow2 hrg3 hnx3 hg3 hloc hbx3 hbx2 hC
        generalize (xs ++ [(x, c)]) = ys at HR hrow4 hbx4 hrg4 hnx4 hsz4 hle4 HC
        go_wp2_with (at_builtin; refine Lib.wpList_append_run _ rfl _ _ _ _ rfl _ _ rfl rfl _ _ HR.out ?_)
        go_roundw
        case rel => exact ⟨_, cnt2, _, ys, hrg4, hle4, hbx4, hrow4, HC.out, hsz4, hnx4⟩
        case measure => rw [hrg4.left_eq, hrg.left_eq]; exact hlt
theorem list_any (b n : Nat) (D : DataW Unit) (w : World) (hown : w.ownsMap Tryz.prog 9 (plainElem Tryz.prog 3) b n D) (hsz : Maps.size D * 24 ≤ 140737488355328) :
    Calls Tryz.prog 34 #[.map (some b)] w (RetList w D) :=
  (list_fr b n D w hown hsz).mono fun e w' ⟨A, c, l, h1, h2, h3, h4, h5, _⟩ => ⟨A, c, l, h1, h2, h3, h4, h5⟩
end Go.Proofs.YtefdipjhjgmokaaGreat
