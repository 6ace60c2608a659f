/-
  slices.DeleteFunc at claims, by the number.
-/
import Derived.Test.YtefdipjhjgmokaaGreatBv43
import Derived.Laws.OwnMore
set_option linter.unusedVariables false
set_option linter.unusedSimpArgs false
namespace Go.Proofs.YtefdipjhjgmokaaGreat
open Go.RowKit Go.WideMaps Go.Maps

theorem zeroCells_all {z : Array Value} {p : Value → Prop} (h0 : 0 < z.size) (hz : ∀ u ∈ z.toList, p u) (n : Nat) : ∀ u ∈ (Builtin.zeroCells z n).toList, p u := by
  intro u hu
  rw [Builtin.zeroCells, Array.toList_map, List.mem_map] at hu
  obtain ⟨a, _, rfl⟩ := hu
  rw [getElem!_pos z _ (Nat.mod_lt _ h0)]
  exact hz _ (Array.mem_toList_iff.2 (Array.getElem_mem _))
/-- clear of the end of a row of one's own -/
theorem clear_tail {st t : TypeId} {z : Value} (hS : Tryz.prog.underlying st = some (.slice t)) (hz : ∀ w, (zeroValue t).run Tryz.prog w = .ok z w) (hzs : z.cells.size = 2) (hz1 : ∀ u ∈ z.cells.toList, u.oneCell' = true)
    (w : World) (B g n i c : Nat) (xs : List Value) (h : w.ownsRow B t 2 (.slice (some ⟨g, 0, none⟩) i c) i xs) (hin : i < n) (hnc : n ≤ c) (k : Nat) (ty : TypeId) :
    ∃ w', (Builtin.clear_ #[st] ty #[.slice (some ⟨g, i * 2, none⟩) (n - i) k]).run Tryz.prog w = .ok (.tuple #[]) w' ∧ w'.ownsRow B t 2 (.slice (some ⟨g, 0, none⟩) i c) i xs ∧ w.grownBy w' (some g) := by
  obtain ⟨m, hm⟩ : ∃ m, n - i = m + 1 := ⟨n - i - 1, by omega⟩
  rcases h.2 with ⟨hv, _⟩ | ⟨g', cap', cur, hv, hbg, hg, hnc', hcm, hcs, htake⟩
  · cases hv
  · simp only [Value.slice.injEq, Option.some.injEq, Addr.mk.injEq, and_true, true_and] at hv
    obtain ⟨rfl, rfl⟩ := hv
    have hzl : (Builtin.zeroCells z.cells (m + 1)).toList.length = (m + 1) * 2 := by rw [Array.length_toList, size_zeroCells, hzs]
    have hst := run_storeCells_at Tryz.prog g (i * 2) t (Builtin.zeroCells z.cells (m + 1)).toList 0 cur w hg (by rw [hzl, hcs]; omega) (zeroCells_all (by omega) hz1 _)
    simp only [Nat.add_zero] at hst
    rw [hm]
    obtain ⟨cur', hcur'⟩ : ∃ cur' : Array Value, cur' = (cur.toList.take (i * 2) ++ (Builtin.zeroCells z.cells (m + 1)).toList ++ cur.toList.drop (i * 2 + (Builtin.zeroCells z.cells (m + 1)).toList.length)).toArray := ⟨_, rfl⟩
    rw [← hcur'] at hst
    refine ⟨w.setRow g cur', ?_, ⟨h.1, .inr ⟨g, c, cur', rfl, hbg, setRow_heap w g cur cur' t _ hg, hnc', hcm, ?_, ?_⟩⟩, ⟨rfl, rfl, rfl, by simp, fun k _ hk => setRow_other w g k _ (fun e => hk (by simp [e]))⟩⟩
    · simp [Builtin.clear_, run_underlying hS, hz w, hst]
    · rw [hcur']
      simp only [List.size_toArray, List.length_append, List.length_take, List.length_drop, Array.length_toList]
      rw [Array.length_toList] at hzl
      omega
    · rw [hcur', List.append_assoc, List.take_append_of_le_length (by rw [List.length_take, Array.length_toList, hcs]; omega), List.take_take, Nat.min_self, htake]

set_option maxHeartbeats 400000 in
set_option maxRecDepth 100000 in
theorem free1_any (b s p1 : Nat) (p2 : Bool) (w : World) (h1 : b < w.heap.size) (c1 : w.cell? ⟨b, 0, none⟩ = some (.int .i64 (s : Int))) :
    Calls Tryz.prog 59 #[.agg #[.int .i64 (p1 : Int), .bool p2], .pointer (some ⟨b, 0, none⟩)] w fun e w' => e = .returned (.bool (decide (p1 = s))) ∧ Below w.heap.size w w' := by
  have d1 := cell_alloc h1 c1 (.cells #[.int .i64 (p1 : Int), .bool p2] 138)
  have hb := (Below.refl w.heap.size w).alloc (Nat.le_refl _) (.cells #[.int .i64 (p1 : Int), .bool p2] 138)
  clear c1
  by_cases h : p1 = s
  · subst h
    go_enter Tryz.func59, Tryz.ntmps59
    go_wp2_with fail
    go_ret
    exact ⟨by simp, hb⟩
  · have g1 : ¬ (p1 : Int) = (s : Int) := by omega
    go_enter Tryz.func59, Tryz.ntmps59
    go_wp2_with fail
    go_ret
    exact ⟨by rw [decide_eq_false h]; simp [g1], hb⟩

/-- the first claim of a number -/
def Ixc (q : List (Nat × Bool)) (s : Nat) (r : Int) : Prop := (∃ i : Nat, ∃ h : i < q.length, r = i ∧ q[i].1 = s ∧ ∀ p ∈ q.take i, p.1 ≠ s) ∨ (r = -1 ∧ ∀ p ∈ q, p.1 ≠ s)
set_option maxHeartbeats 400000 in
set_option maxRecDepth 100000 in
theorem dindexFunc_any (b s : Nat) (A : Option Addr) (c B : Nat) (q : List (Nat × Bool)) (w : World) (h1 : b < w.heap.size) (c1 : w.cell? ⟨b, 0, none⟩ = some (.int .i64 (s : Int))) (hA : QS w B A c q) (hl : q.length ≤ 1000) :
    Calls Tryz.prog 91 #[.slice A q.length c, .func (.func 59) #[] #[.pointer (some ⟨b, 0, none⟩)]] w fun e w' => ∃ r : Int, e = .returned (.int .i64 r) ∧ Ixc q s r ∧ Below w.heap.size w w' := by
  go_enter Tryz.func91, Tryz.ntmps91
  go_wp2_with fail
  go_loopw [8] (fun i wr => ∃ k : Nat, k ≤ q.length ∧ i = .int .i64 k ∧ (∀ p ∈ q.take k, p.1 ≠ s) ∧ Below w.heap.size w wr) (fun i _ => q.length - (intOf i).toNat)
  case atStart => exact ⟨0, Nat.zero_le _, rfl, by simp, Below.refl _ _⟩
  case round =>
    obtain ⟨k, hk, rfl, hnot, hbw⟩ := hrel
    have HN := hideP hnot
    clear hnot
    by_cases hlt : k < q.length
    · obtain ⟨b3, rfl, hbl, q1, q2⟩ := (hA.below hbw).at_ hlt
      have d1 := (hbw.cell (p := ⟨b, 0, none⟩) h1).trans c1
      have hnx := hideP (fun (h2 : q[k].1 ≠ s) (e : Nat × Bool) (he : e ∈ q.take (k + 1)) => show e.1 ≠ s by
        rw [List.take_succ_eq_append_getElem hlt] at he
        rcases List.mem_append.1 he with he | he
        · exact HN.out e he
        · rw [List.mem_singleton.1 he]; exact h2)
      have hyes := hideP (fun (h2 : q[k].1 = s) => show Ixc q s k from .inl ⟨k, hlt, rfl, h2, HN.out⟩)
      clear hA c1
      generalize q[k] = p at q1 q2 hnx hyes
      obtain ⟨p1, p2⟩ := p
      have g1 : (0 : Int) ≤ (k : Int) := by omega
      have g2 : (k : Int) < (q.length : Int) := by omega
      go_wp2_with fail
      refine (free1_any b s p1 p2 _ (Nat.lt_of_lt_of_le h1 hbw.size) d1).mono ?_
      rintro e w1 ⟨rfl, hb1⟩
      have hb2 := hbw.trans (hb1.mono hbw.size)
      by_cases he : p1 = s
      · have HE := hideP he
        have d : decide (p1 = s) = true := decide_eq_true he
        clear he
        rw [d]
        go_wp2_with fail
        go_ret
        exact ⟨k, rfl, hyes.out HE.out, hb2⟩
      · have HE := hideP he
        have d : decide (p1 = s) = false := decide_eq_false he
        clear he
        rw [d]
        go_wp2_with fail
        go_roundw
        case rel => exact ⟨k + 1, by omega, by go_num, hnx.out HE.out, hb2⟩
        case measure => simp [intOf]; omega
    · go_wp2_with fail
      go_ret
      exact ⟨-1, rfl, .inr ⟨rfl, by have := HN.out; rw [List.take_of_length_le (by omega)] at this; exact this⟩, hbw⟩

/-- without a number -/
def wo (q : List (Nat × Bool)) (s : Nat) : List (Nat × Bool) := q.filter fun p => !decide (p.1 = s)
theorem wo_take {q : List (Nat × Bool)} {s k : Nat} (h : k < q.length) : wo (q.take (k + 1)) s = wo (q.take k) s ++ if q[k].1 = s then [] else [q[k]] := by
  unfold wo
  rw [List.take_succ_eq_append_getElem h, List.filter_append]
  congr 1
  by_cases hs : q[k].1 = s <;> simp [hs]
/-- while the claims of a number are taken out -/
structure DelM (w : World) (g c s : Nat) (q : List (Nat × Bool)) (i j : Nat) (cur : Array Value) (wr : World) : Prop where
  lt : i < j
  le : j ≤ q.length
  num : i = (wo (q.take j) s).length
  box : Box wr g 138 cur
  size : cur.size = c * 2
  tk : cur.toList.take (i * 2) = cmCells (wo (q.take j) s)
  rest : ∀ t (ht : t < q.length), j ≤ t → cur[t * 2]? = some (.int .i64 (q[t].1 : Int)) ∧ cur[t * 2 + 1]? = some (.bool q[t].2)
  grown : w.grownBy wr (some g)
def DelInv (w : World) (g c s : Nat) (q : List (Nat × Bool)) (vi vj : Value) (wr : World) : Prop := ∃ (i j : Nat) (cur : Array Value), vi = .int .i64 i ∧ vj = .int .i64 j ∧ DelM w g c s q i j cur wr
section
variable {w wr w' : World} {g c s i j : Nat} {q : List (Nat × Bool)} {cur : Array Value}
theorem grown_belowL {w wr w' : World} {r : Option Nat} (h : w.grownBy wr r) (hb : Below wr.heap.size wr w') : w.grownBy w' r :=
  ⟨hb.os.trans h.os, hb.tape.trans h.tape, hb.output.trans h.output, Nat.le_trans h.size hb.size, fun k hk hne => (hb.block k (Nat.lt_of_lt_of_le hk h.size)).trans (h.block k hk hne)⟩
theorem grown_transL {a b c : World} {r : Option Nat} (h : a.grownBy b r) (k : b.grownBy c r) : a.grownBy c r :=
  ⟨k.os.trans h.os, k.tape.trans h.tape, k.output.trans h.output, Nat.le_trans h.size k.size, fun i hi hne => (k.block i (Nat.lt_of_lt_of_le hi h.size) hne).trans (h.block i hi hne)⟩
theorem DelM.below (h : DelM w g c s q i j cur wr) (hb : Below wr.heap.size wr w') : DelM w g c s q i j cur w' :=
  ⟨h.lt, h.le, h.num, h.box.below hb, h.size, h.tk, h.rest, grown_belowL h.grown hb⟩
theorem DelM.skip (h : DelM w g c s q i j cur wr) (hj : j < q.length) (hs : q[j].1 = s) : DelM w g c s q i (j + 1) cur wr := by
  have e : wo (q.take (j + 1)) s = wo (q.take j) s := by rw [wo_take hj, if_pos hs, List.append_nil]
  exact ⟨by have := h.lt; omega, by omega, by rw [e]; exact h.num, h.box, h.size, by rw [e]; exact h.tk, fun t ht hjt => h.rest t ht (by omega), h.grown⟩
theorem DelM.put (h : DelM w g c s q i j cur wr) (hj : j < q.length) (hs : q[j].1 ≠ s) (hc : q.length ≤ c) : DelM w g c s q (i + 1) (j + 1) ((cur.setIfInBounds (i * 2) (.int .i64 (q[j].1 : Int))).setIfInBounds (i * 2 + 1) (.bool q[j].2))
    ((wr.setCell ⟨g, i * 2, none⟩ (.int .i64 (q[j].1 : Int))).setCell ⟨g, i * 2 + 1, none⟩ (.bool q[j].2)) := by
  have hlt := h.lt
  have e : wo (q.take (j + 1)) s = wo (q.take j) s ++ [q[j]] := by rw [wo_take hj, if_neg hs]
  refine ⟨by omega, by omega, by rw [e, List.length_append, ← h.num]; rfl, (h.box.set _ _).set _ _, by simp [h.size], ?_, fun t ht hjt => ?_, grown_transL (grown_transL h.grown (grown_setCell _ _ _)) (grown_setCell _ _ _)⟩
  · rw [e, cmCells_append, ← h.tk]
    have hsz : cur.toList.length = c * 2 := by rw [Array.length_toList, h.size]
    apply List.ext_getElem?
    intro k
    simp only [Array.toList_setIfInBounds, List.getElem?_take, List.getElem?_set, List.getElem?_append, List.length_take, hsz, cmCells]
    have hm : min (i * 2) (c * 2) = i * 2 := by omega
    rw [hm]
    by_cases k0 : k < i * 2
    · have a1 : k < (i + 1) * 2 := by omega
      have a2 : ¬ i * 2 + 1 = k := by omega
      have a3 : ¬ i * 2 = k := by omega
      simp [k0, a1, a2, a3]
    · by_cases k1 : k = i * 2
      · subst k1
        have a1 : i * 2 < (i + 1) * 2 := by omega
        have a2 : i * 2 < c * 2 := by omega
        simp [a1, a2, hsz]
      · by_cases k2 : k = i * 2 + 1
        · subst k2
          have a1 : i * 2 + 1 < (i + 1) * 2 := by omega
          have a2 : i * 2 + 1 < c * 2 := by omega
          simp [a1, a2, hsz]
          intro hh; omega
        · have a1 : ¬ k < (i + 1) * 2 := by omega
          have a2 : k - i * 2 = (k - i * 2 - 2) + 1 + 1 := by omega
          rw [if_neg a1, if_neg k0, a2]
          simp
  · obtain ⟨r1, r2⟩ := h.rest t ht (by omega)
    have b1 : ¬ i * 2 + 1 = t * 2 := by omega
    have b2 : ¬ i * 2 = t * 2 := by omega
    have b3 : ¬ i * 2 + 1 = t * 2 + 1 := by omega
    have b4 : ¬ i * 2 = t * 2 + 1 := by omega
    constructor
    · rw [Array.getElem?_setIfInBounds_ne b1, Array.getElem?_setIfInBounds_ne b2]; exact r1
    · rw [Array.getElem?_setIfInBounds_ne b3, Array.getElem?_setIfInBounds_ne b4]; exact r2
end
theorem zeroC (w : World) : (zeroValue 138).run Tryz.prog w = .ok (.agg #[.int .i64 0, .bool false]) w := by kernel_rfl

set_option maxHeartbeats 1000000 in
set_option maxRecDepth 100000 in
theorem deleteFunc_any (b s : Nat) (A : Option Addr) (c B : Nat) (q : List (Nat × Bool)) (w : World) (h1 : b < w.heap.size) (hne : ∀ g, A = some ⟨g, 0, none⟩ → g ≠ b) (c1 : w.cell? ⟨b, 0, none⟩ = some (.int .i64 (s : Int))) (hA : QS w B A c q) (hl : q.length ≤ 1000) :
    Calls Tryz.prog 60 #[.slice A q.length c, .func (.func 59) #[] #[.pointer (some ⟨b, 0, none⟩)]] w fun e w' =>
      e = .returned (.slice A (wo q s).length c) ∧ QS w' B A c (wo q s) ∧ w.grownBy w' (A.map (·.block)) := by
  go_enter Tryz.func60, Tryz.ntmps60
  go_wp2_with fail
  refine (dindexFunc_any b s A c B q _ h1 c1 hA hl).mono ?_
  rintro e w1 ⟨r, rfl, hr, hb1⟩
  rcases hr with ⟨i, hi, rfl, hs, hno⟩ | ⟨rfl, hno⟩
  · have g3 : ((i : Int) == -1) = false := by simp
    obtain ⟨g, rfl, hbl⟩ : ∃ g, A = some ⟨g, 0, none⟩ ∧ B ≤ g := by
      obtain ⟨g, cap, hv, hbg, _⟩ := World.ownsRow.form hA (by omega)
      injection hv with a _ _
      exact ⟨g, a, hbg⟩
    obtain ⟨cur, hbox, hsz, htk, hqc, hcm⟩ : ∃ cur, Box w1 g 138 cur ∧ cur.size = c * 2 ∧ cur.toList.take (q.length * 2) = cmCells q ∧ q.length ≤ c ∧ c ≤ maxLen := by
      rcases (hA.below hb1).2 with ⟨hv, _⟩ | ⟨g', cap', cur, hv, _, hg, h3, h4, h5, h6⟩
      · cases hv
      · simp only [Value.slice.injEq, Option.some.injEq, Addr.mk.injEq, and_true, true_and] at hv
        obtain ⟨rfl, rfl⟩ := hv
        exact ⟨cur, hg, h5, h6, h3, h4⟩
    have hgb : g ≠ b := hne g rfl
    have hcell : ∀ (k : Nat) (u : Value), (cmCells q)[k]? = some u → cur[k]? = some u := by
      intro k u hu
      rw [← htk, List.getElem?_take] at hu
      split at hu
      · rw [← Array.getElem?_toList]; exact hu
      · cases hu
    have hM0 : DelM w g c s q i (i + 1) cur w1 := by
      have e1 : wo (q.take i) s = q.take i := List.filter_eq_self.2 fun p hp => by rw [decide_eq_false (hno p hp)]; rfl
      have e2 : wo (q.take (i + 1)) s = q.take i := by rw [wo_take hi, if_pos hs, e1, List.append_nil]
      refine ⟨by omega, by omega, by rw [e2, List.length_take]; omega, hbox, hsz, ?_, fun t ht _ => ?_, ⟨hb1.os, hb1.tape, hb1.output, hb1.size, fun k hk _ => hb1.block k hk⟩⟩
      · rw [e2]
        have h7 : cmCells q = cmCells (q.take i) ++ cmCells (q.drop i) := by rw [← cmCells_append, List.take_append_drop]
        have h8 : (cmCells (q.take i)).length = i * 2 := by rw [cmCells_length, List.length_take]; congr 1; omega
        have h9 : cur.toList.take (i * 2) = (cur.toList.take (q.length * 2)).take (i * 2) := by rw [List.take_take]; congr 1; omega
        rw [h9, htk, h7, ← h8, List.take_left]
      · have := cmCells_get q t q[t] (List.getElem?_eq_getElem ht)
        exact ⟨hcell _ _ this.1, hcell _ _ this.2⟩
    have d1 := (hb1.cell (p := ⟨b, 0, none⟩) h1).trans c1
    have hblt := Nat.lt_of_lt_of_le h1 hb1.size
    clear hA hs hno hbox hsz htk hcell c1
    go_wp2_with fail
    go_loopw [5, 6] (DelInv w g c s q) (fun _ j _ => q.length - (intOf j).toNat)
    case atStart => exact ⟨i, i + 1, cur, rfl, by go_num, hM0⟩
    case round =>
      obtain ⟨i, j, cur, rfl, rfl, hM⟩ := hrel
      clear hM0
      have hlt := hM.lt
      have hle := hM.le
      by_cases hj : j < q.length
      · obtain ⟨r1, r2⟩ := hM.rest j hj (Nat.le_refl _)
        have q1 := hM.box.cell _ r1
        have q2 := hM.box.cell _ r2
        have hcb := (hM.grown.block b h1 (fun e => hgb (by injection e with e; exact e.symm)))
        have hdd : wr.cell? ⟨b, 0, none⟩ = some (.int .i64 (s : Int)) := by
          rw [← d1]
          have h8 := hb1.block b h1
          simp only [World.cell?]
          rw [hcb, h8]
        have hbw : b < wr.heap.size := Nat.lt_of_lt_of_le h1 hM.grown.size
        have hskip := hideP (fun h w' (hb : Below wr.heap.size wr w') => (hM.below hb).skip hj h)
        have hput := hideP (fun h w' (hb : Below wr.heap.size wr w') => (hM.below hb).put hj h hqc)
        have hbx := hideP (fun w' (hb : Below wr.heap.size wr w') => hM.box.below hb)
        have hcs : cur.size = c * 2 := hM.size
        clear hM r1 r2 hcb
        generalize q[j] = p at q1 q2 hskip hput
        obtain ⟨p1, p2⟩ := p
        have hb2 := (Below.refl wr.heap.size wr).alloc (Nat.le_refl _) (.cells #[.int .i64 (p1 : Int), .bool p2] 138)
        have hd2 := cell_alloc hbw hdd (.cells #[.int .i64 (p1 : Int), .bool p2] 138)
        have v1 : (wr.alloc (.cells #[.int .i64 (p1 : Int), .bool p2] 138)).cell? ⟨wr.heap.size, 0, none⟩ = some (.int .i64 (p1 : Int)) := by simp
        have v2 : (wr.alloc (.cells #[.int .i64 (p1 : Int), .bool p2] 138)).cell? ⟨wr.heap.size, 1, none⟩ = some (.bool p2) := by simp
        have hlt0 : wr.heap.size < (wr.alloc (.cells #[.int .i64 (p1 : Int), .bool p2] 138)).heap.size := by simp
        have g4 : (0 : Int) ≤ (j : Int) := by omega
        have g5 : (j : Int) < (q.length : Int) := by omega
        have g6 : (0 : Int) ≤ (i : Int) := by omega
        have g7 : (i : Int) < (q.length : Int) := by omega
        go_wp2_with fail
        generalize wr.alloc (.cells #[.int .i64 (p1 : Int), .bool p2] 138) = w0 at hb2 hd2 v1 v2 hlt0 ⊢
        refine (free1_any b s p1 p2 _ (Nat.lt_of_lt_of_le hbw hb2.size) hd2).mono ?_
        rintro e w3 ⟨rfl, hb3⟩
        have hb4 := hb2.trans (hb3.mono hb2.size)
        by_cases he : p1 = s
        · have HM := hideP (hskip.out he w3 hb4)
          have d : decide (p1 = s) = true := decide_eq_true he
          clear he hskip hput hbx
          rw [d]
          go_wp2_with fail
          go_roundw
          case rel => exact ⟨i, j + 1, cur, by go_num, by go_num, HM.out⟩
          case measure => simp [intOf]; omega
        · have HM := hideP (hput.out he w3 hb4)
          have d : decide (p1 = s) = false := decide_eq_false he
          have hB3 := hbx.out w3 hb4
          have u1 := (hb3.cell (p := ⟨wr.heap.size, 0, none⟩) hlt0).trans v1
          have u2 := (hb3.cell (p := ⟨wr.heap.size, 1, none⟩) hlt0).trans v2
          obtain ⟨x1, hx1⟩ : ∃ x, cur[i * 2]? = some x := ⟨cur[i * 2]'(by omega), Array.getElem?_eq_getElem (by omega)⟩
          obtain ⟨x2, hx2⟩ : ∃ x, cur[i * 2 + 1]? = some x := ⟨cur[i * 2 + 1]'(by omega), Array.getElem?_eq_getElem (by omega)⟩
          have y1 := hB3.cell _ hx1
          have y2 := hB3.cell _ hx2
          have z1 := hB3.frozen (i * 2)
          have z2 := hB3.frozen (i * 2 + 1)
          clear he hskip hput hbx v1 v2 hx1 hx2
          generalize wr.heap.size = g0 at hlt0 u1 u2 hb2 hb4 ⊢
          rw [d]
          go_wp2_with fail
          go_roundw
          case rel => exact ⟨i + 1, j + 1, _, by go_num, by go_num, HM.out⟩
          case measure => simp [intOf]; omega
      · have hjq : j = q.length := by omega
        subst hjq
        have HW := hideP (show wo (q.take q.length) s = wo q s by rw [List.take_length])
        have hrow : QS wr B (some ⟨g, 0, none⟩) c (wo q s) := by
          have := hM.num; have h5 := hM.tk
          rw [HW.out] at this h5
          rw [this] at h5
          exact ⟨by rw [cmCells_length], .inr ⟨g, c, cur, rfl, hbl, hM.box, by omega, hcm, hM.size, h5⟩⟩
        have hnum : i = (wo q s).length := by rw [← HW.out]; exact hM.num
        have hgr := hM.grown
        clear hM HW
        unfold QS at hrow
        rw [← hnum] at hrow
        obtain ⟨w', hrun, hown, hg2⟩ := clear_tail Tryz.underlying140 zeroC rfl (by intro u hu; simp [Value.cells] at hu; rcases hu with rfl | rfl <;> rfl) wr B g q.length i c _ hrow hlt hqc (c - i) 0
        have HN := hideP hnum
        have hg3 := grown_transL hgr hg2
        clear hrow hgr hg2 hnum
        have g4 : (0 : Int) ≤ (i : Int) := by omega
        have g5 : (i : Int) ≤ (q.length : Int) := by omega
        have g6 : ¬ c = i := by omega
        have g7 : (i : Int) ≤ (c : Int) := by omega
        have g8 : (q.length : Int) ≤ (c : Int) := by omega
        go_wp2_with fail
        go_ret
        refine ⟨by rw [← HN.out]; rfl, ?_, hg3⟩
        unfold QS
        rw [← HN.out]
        exact hown
  · have HW := hideP (show wo q s = q from List.filter_eq_self.2 fun p hp => by rw [decide_eq_false (hno p hp)]; rfl)
    have hA1 := hA.below hb1
    clear hno hA
    go_wp2_with fail
    go_ret
    rw [HW.out]
    exact ⟨rfl, hA1, ⟨hb1.os, hb1.tape, hb1.output, hb1.size, fun k hk _ => hb1.block k hk⟩⟩
end Go.Proofs.YtefdipjhjgmokaaGreat
