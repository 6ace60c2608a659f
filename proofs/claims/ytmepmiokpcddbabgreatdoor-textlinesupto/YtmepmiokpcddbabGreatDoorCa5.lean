/-
  The block of a slice (no program in it).
  Rows of operations and of transactions in memory of the call's own (no body of the program in it).
  Entries in memory (no body of the program in it).
  A line one byte of which is another one cannot be read, plainly (no program in it).
-/
import Derived.WalkKit
import Derived.OwnWalk
import Derived.Test.YtmepmiokpcddbabGreatDoorCa4
import Derived.Test.YtmepmiokpcddbabGreatDoorCa3
set_option linter.unusedVariables false
set_option linter.unusedSimpArgs false
namespace Go.Proofs.YtmepmiokpcddbabGreatDoor
open Go.RowKit

/-- the block of a slice's row -/
def blk (A : Option Addr) : Option Nat := A.map (·.block)
theorem ownBlock_slice (A : Option Addr) (n c : Nat) : (Value.slice A n c).ownBlock = blk A := by cases A <;> rfl
end Go.Proofs.YtmepmiokpcddbabGreatDoor

set_option linter.unusedVariables false
set_option linter.unusedSimpArgs false
namespace Go.Proofs.YtmepmiokpcddbabGreatDoor
open Go.RowKit

/-- the cells of a list of operations -/
def opCells : List Opr → List Value
  | [] => []
  | o :: r => .int .i64 o.kind :: .string o.key :: .string o.src :: .int .i64 o.n :: opCells r
theorem opCells_length (l : List Opr) : (opCells l).length = l.length * 4 := by
  induction l with
  | nil => rfl
  | cons p r ih => simp [opCells, ih]; omega
theorem opCells_append (l m : List Opr) : opCells (l ++ m) = opCells l ++ opCells m := by
  induction l with
  | nil => rfl
  | cons p r ih => simp [opCells, ih]
theorem opCells_get (l : List Opr) (i : Nat) (p : Opr) (h : l[i]? = some p) : (opCells l)[i * 4]? = some (.int .i64 p.kind) ∧ (opCells l)[i * 4 + 1]? = some (.string p.key) ∧ (opCells l)[i * 4 + 2]? = some (.string p.src) ∧ (opCells l)[i * 4 + 3]? = some (.int .i64 p.n) := by
  induction l generalizing i with
  | nil => simp at h
  | cons q r ih =>
    cases i with
    | zero => simp at h; subst h; simp [opCells]
    | succ i => simp at h; have := ih i h; rw [show (i + 1) * 4 = i * 4 + 1 + 1 + 1 + 1 by omega]; simpa [opCells] using this
theorem opInfo : (Tryz.prog.info? 93).map (fun i => (i.zero, i.size, i.bytes)) = some (some (.agg #[.int .i64 0, .string ByteArray.empty, .string ByteArray.empty, .int .i64 0]), 4, 48) := by kernel_rfl
theorem deedInfo : (Tryz.prog.info? 24).map (fun i => (i.zero, i.size, i.bytes)) = some (some (.agg #[.slice none 0 0]), 1, 24) := by kernel_rfl
/-- a slice of operations that the call itself has made -/
def OO (w : World) (B : Nat) (D : Option Addr) (c : Nat) (d : List Opr) : Prop := w.ownsRow B 93 4 (.slice D d.length c) d.length (opCells d)
section
variable {w w' : World} {B B' : Nat} {D : Option Addr} {c : Nat} {d : List Opr}
theorem OO.mono (h : OO w B D c d) (hB : B' ≤ B) : OO w B' D c d :=
  ⟨h.1, h.2.imp id fun ⟨g, cap, cur, h1, h2, h3⟩ => ⟨g, cap, cur, h1, Nat.le_trans hB h2, h3⟩⟩
theorem OO.below (h : OO w B D c d) (hb : Below w.heap.size w w') : OO w' B D c d :=
  ⟨h.1, h.2.imp id fun ⟨g, cap, cur, h1, h2, h3, h4⟩ => ⟨g, cap, cur, h1, h2, (hb.block g (Array.getElem?_eq_some_iff.1 h3).1).trans h3, h4⟩⟩
theorem OO.nil (w : World) (B : Nat) : OO w B none 0 [] := World.ownsRow_nil w _ _ _
theorem OO.os (h : OO w B D c d) : OS w w.heap.size D d := by
  rcases Nat.eq_zero_or_pos d.length with h0 | h0
  · rw [List.length_eq_zero_iff.1 h0]; exact OS.nil
  · obtain ⟨g, cap, hv, _, hlt⟩ := World.ownsRow.form h h0
    injection hv with a b e
    subst a; subst e
    have hc := h.cells (g := g) rfl
    intro i p hp
    obtain ⟨g1, g2, g3, g4⟩ := opCells_get d i p hp
    have h1 := hc _ _ g1
    have h2 := hc _ _ g2
    have h3 := hc _ _ g3
    have h4 := hc _ _ g4
    rw [Addr.add_lit] at h1 h2 h3 h4
    refine ⟨g, 0, rfl, hlt, h1, ?_, ?_, ?_⟩
    · rw [Nat.add_assoc]; exact h2
    · rw [Nat.add_assoc]; exact h3
    · rw [Nat.add_assoc]; exact h4
theorem OO.lt (h : OO w B D c d) {k : Nat} (hk : blk D = some k) : B ≤ k ∧ k < w.heap.size := World.ownsRow.lt h k (by rw [ownBlock_slice]; exact hk)
theorem OO.some_ (h : OO w B D c d) (hd : d ≠ []) : ∃ k, blk D = some k := by
  obtain ⟨g, cap, hv, _, _⟩ := World.ownsRow.form h (List.length_pos_iff.2 hd)
  injection hv with a b e
  subst a
  exact ⟨g, rfl⟩
end
/-- append of one operation onto such a row -/
theorem app_op (w : World) (base : Nat) (ty : TypeId) (D : Option Addr) (c : Nat) (d : List Opr) (hown : OO w base D c d) (o : Opr) (hl : d.length ≤ 5000000000) (hbase : base ≤ w.heap.size) :
    ∃ D' c' w', (Builtin.append_ #[22, 22] ty #[.slice D d.length c, .slice (some ⟨w.heap.size, 0, none⟩) 1 1]).run Tryz.prog (w.alloc (.cells #[.int .i64 o.kind, .string o.key, .string o.src, .int .i64 o.n] 93)) = .ok (.slice D' (d ++ [o]).length c') w' ∧ OO w' base D' c' (d ++ [o]) ∧
      (w.alloc (.cells #[.int .i64 o.kind, .string o.key, .string o.src, .int .i64 o.n] 93)).grownBy w' (blk D) ∧ (∀ B a, B ≤ base → Below B a w → Below B a w') ∧ (blk D' = blk D ∨ blk D' = some (w.heap.size + 1)) := by
  obtain ⟨i0, hi, hz0, hz1, hz2⟩ := info_parts opInfo
  have hc : ∀ j u, (opCells [o])[j]? = some u → (w.alloc (.cells (opCells [o]).toArray 93)).cell? ((⟨w.heap.size, 0, none⟩ : Addr).add j) = some u := by
    intro j u hu
    rw [Addr.add_lit]
    simp only [World.cell?]
    rw [heap_alloc_new]
    simp [hu]
  have hown' : (w.alloc (.cells (opCells [o]).toArray 93)).ownsRow base 93 4 (.slice D d.length c) d.length (opCells d) := World.ownsRow.alloc hown _
  obtain ⟨v', w', hrun, h2, h3, _, h5⟩ := run_append_own_at (P := Tryz.prog) (w.alloc (.cells (opCells [o]).toArray 93)) base 22 ty 93 i0 _ 4 48 Tryz.underlying22 hi hz0 hz1 hz2 rfl (by decide) _ d.length (opCells d) hown' ⟨w.heap.size, 0, none⟩ 1 1 (opCells [o]) (by simp [opCells]) hc
    (by intro u hu; simp [opCells] at hu; rcases hu with rfl | rfl | rfl | rfl <;> rfl) (by unfold maxLen; omega) (by omega) (by simp; omega)
  rw [← opCells_append, show d.length + 1 = (d ++ [o]).length by simp] at h2
  obtain ⟨D', c', rfl⟩ : ∃ D' c', v' = .slice D' (d ++ [o]).length c' := by
    rcases h2.2 with ⟨rfl, h0⟩ | ⟨g, cap, cur, rfl, _⟩
    · exact ⟨none, 0, by rw [h0]⟩
    · exact ⟨_, _, rfl⟩
  rw [ownBlock_slice, ownBlock_slice] at h5
  refine ⟨D', c', w', hrun, h2, by rw [ownBlock_slice] at h3; exact h3, fun B a hB hb => ?_, by simpa using h5⟩
  have hb' := hb.alloc (Nat.le_trans hB hbase) (.cells (opCells [o]).toArray 93)
  exact hb'.grown h3 (by simp; omega) fun k hk => Nat.le_trans hB (World.ownsRow.lt hown' k hk).1
end Go.Proofs.YtmepmiokpcddbabGreatDoor

set_option linter.unusedVariables false
set_option linter.unusedSimpArgs false
namespace Go.Proofs.YtmepmiokpcddbabGreatDoor
open Go.RowKit

/-- an entry as a value: where its lists lie -/
structure Em where
  D : Option Addr
  c : Nat
  d : List Opr
  isM : Bool
  m : Mp
def emC (x : Em) : Array Value := #[.slice x.D x.d.length x.c, .bool x.isM, .slice x.m.A x.m.cs.length x.m.ca, .slice x.m.O x.m.os.length x.m.co]
def emV (x : Em) : Value := .agg (emC x)
/-- what it reads as -/
structure ES (w : World) (x : Em) : Prop where
  ops : OS w w.heap.size x.D x.d
  map : MS w x.m
  bd : ∀ o ∈ x.d, -9223372036854775808 ≤ o.n ∧ o.n ≤ 9223372036854775807
theorem ES.below {w w' : World} {x : Em} (h : ES w x) (hb : Below w.heap.size w w') : ES w' x := ⟨h.ops.go hb, h.map.below hb, h.bd⟩
def entOf (x : Em) : Ent := ⟨x.isM, x.d, x.m.cs, x.m.os⟩
/-- an entry of the call's own -/
structure EO (w : World) (B : Nat) (x : Em) : Prop where
  ops : OO w B x.D x.c x.d
  map : MO w B x.m
theorem EO.below {w w' : World} {B : Nat} {x : Em} (h : EO w B x) (hb : Below w.heap.size w w') : EO w' B x := ⟨h.ops.below hb, h.map.below hb⟩
theorem EO.mono {w : World} {B B' : Nat} {x : Em} (h : EO w B x) (hB : B' ≤ B) : EO w B' x := ⟨h.ops.mono hB, h.map.mono hB⟩
/-- no entry -/
def em0 : Em := ⟨none, 0, [], false, noM⟩
theorem em0_eo (w : World) (B : Nat) : EO w B em0 := ⟨OO.nil _ _, noM_mo _ _⟩
end Go.Proofs.YtmepmiokpcddbabGreatDoor

set_option linter.unusedVariables false
set_option linter.unusedSimpArgs false
namespace Go.Proofs.YtmepmiokpcddbabGreatDoor
open Go.Lib

theorem join_le {c : UInt8} {k : Nat} : ∀ {xs : List (List UInt8)}, (∀ x ∈ xs, x.length ≤ k) → (join xs [c]).length ≤ xs.length * (k + 1)
  | [], _ => by simp [join_nil]
  | [x], h => by rw [join_one]; have := h x (by simp); simp; omega
  | x :: y :: r, h => by
    rw [join_two]
    have h1 := h x (by simp)
    have h2 := join_le (c := c) (xs := y :: r) (fun z hz => h z (List.mem_cons_of_mem _ hz))
    simp only [List.length_append, List.length_cons, Nat.add_mul] at h2 ⊢
    omega
theorem key_len {s : ByteArray} (h : keyB s = true) : s.data.toList.length ≤ 6 := by
  simp [keyB] at h
  have : s.data.toList.length = s.size := by simp
  omega
theorem val_len {n : Int} (h : valB n = true) : (itoa n).length ≤ 11 := by
  simp [valB] at h
  exact itoa_short (by omega) (by omega)
theorem opT_len {o : Opr} (h : chkO o = 0) : (opT o).length ≤ 25 := by
  obtain ⟨g1, g2, g3, g4, g5, g6⟩ := chkO_zero.1 h
  have k1 := key_len g3
  unfold opT
  split
  · next e => have := val_len (g5 (by omega)); simp only [List.length_append, List.length_cons]; omega
  · split
    · next e => have := val_len (g5 (by omega)); simp only [List.length_append, List.length_cons]; omega
    · split
      · next e => have := key_len (g4 (.inl e)).1; simp only [List.length_append, List.length_cons]; omega
      · split
        · next e => have := val_len (g5 (by omega)); simp only [List.length_append, List.length_cons]; omega
        · next e1 e2 e3 e4 =>
          have h1 := val_len (g5 (by omega))
          have h2 := key_len (g4 (.inr (by omega))).1
          simp only [List.length_append, List.length_cons]; omega
theorem own_len {n : Int} (h0 : 0 ≤ n) (h1 : n ≤ 3) : (itoa n).length = 1 := by
  obtain rfl | rfl | rfl | rfl : n = 0 ∨ n = 1 ∨ n = 2 ∨ n = 3 := by omega
  all_goals
    unfold itoa
    rw [if_neg (by decide), decDigits_length, nDigits_small (by decide)]
theorem wdT_len : ∀ (cs : List ByteArray) (os : List Int), (∀ k ∈ cs, keyB k = true) → (∀ n ∈ os, 0 ≤ n ∧ n ≤ 3) → (wdT cs os).length ≤ 2 * cs.length ∧ ∀ x ∈ wdT cs os, x.length ≤ 6
  | [], os, _, _ => by simp [wdT]
  | _ :: _, [], _, _ => by simp [wdT]
  | k :: cs, o :: os, hk, ho => by
    obtain ⟨h1, h2⟩ := wdT_len cs os (fun j hj => hk j (List.mem_cons_of_mem _ hj)) (fun n hn => ho n (List.mem_cons_of_mem _ hn))
    rw [wdT]
    refine ⟨by simp only [List.length_cons]; omega, ?_⟩
    intro x hx
    rcases List.mem_cons.1 hx with rfl | hx
    · exact key_len (hk k (by simp))
    rcases List.mem_cons.1 hx with rfl | hx
    · have := ho o (by simp); rw [own_len this.1 this.2]; omega
    · exact h2 x hx
theorem body_len {x : Ent} (h : chkE x = 0) : (bodyT x).length ≤ 256 := by
  obtain ⟨m, d, cs, os⟩ := x
  cases m
  · have h' := chkD_zero.1 (show chkD d = 0 from h)
    show (tD d).length ≤ 256
    have h1 : (tD d).length ≤ (d.map opT).length * 26 := join_le fun x hx => by
      obtain ⟨o, ho, rfl⟩ := List.mem_map.1 hx
      exact opT_len (h'.2.2 o ho)
    rw [List.length_map] at h1
    have := h'.2.1
    omega
  · have h' := chkM_ok.1 (show chkM cs os = 0 from h)
    show (mapW ++ tM cs os).length ≤ 256
    obtain ⟨o, r, rfl, hl⟩ := okM_one h'
    obtain ⟨h1, h2⟩ := wdT_len cs r (okM_keys h') (fun n hn => h'.own n (List.mem_cons_of_mem _ hn))
    have h3 : (tM cs (o :: r)).length ≤ (wdM cs (o :: r)).length * 7 := join_le fun x hx => by
      rw [wdM] at hx
      rcases List.mem_cons.1 hx with rfl | hx
      · have := h'.own o (by simp); rw [own_len this.1 this.2]; omega
      · exact h2 x hx
    rw [wdM, List.length_cons] at h3
    have := h'.few
    simp only [List.length_append, mapW, List.length_cons, List.length_nil]
    omega
/-- a line without its newline -/
def lineT (x : Ent) : List UInt8 := bodyT x ++ 32 :: itoa (sm (bodyT x))
theorem entT_line (x : Ent) : entT x = lineT x ++ [10] := by simp [entT, lnT, lineT]
theorem line_at (x : Ent) : (lineT x)[(bodyT x).length]? = some 32 := by simp [lineT]
theorem line_lt (x : Ent) : (bodyT x).length < (lineT x).length := by simp [lineT]
theorem line_take (x : Ent) : (lineT x).take (bodyT x).length = bodyT x := by simp [lineT]
theorem line_drop (x : Ent) : (lineT x).drop ((bodyT x).length + 1) = itoa (sm (bodyT x)) := by simp [lineT, List.drop_append]
theorem sp_of {x : Ent} (h : chkE x = 0) {j : Nat} (hj : (lineT x)[j]? = some 32) : j = (bodyT x).length ∨ j = 3 ∧ 3 < (bodyT x).length ∧ (bodyT x).take 3 = [109, 97, 112] := by
  rcases Nat.lt_trichotomy j (bodyT x).length with hlt | heq | hgt
  · rw [lineT, List.getElem?_append_left hlt] at hj
    obtain ⟨rfl, r, hr⟩ := body_sp h hj
    exact .inr ⟨rfl, hlt, by rw [hr]; rfl⟩
  · exact .inl heq
  · rw [lineT, List.getElem?_append_right (by omega)] at hj
    obtain ⟨m, hm⟩ : ∃ m, j - (bodyT x).length = m + 1 := ⟨j - (bodyT x).length - 1, by omega⟩
    rw [hm, List.getElem?_cons_succ] at hj
    exact absurd (List.mem_of_getElem? hj) (num_not (by decide) (by decide))
theorem line_eq {x y : Ent} (h : bodyT x = bodyT y) : lineT x = lineT y := by unfold lineT; rw [h]
theorem changed {x : Ent} (h : chkE x = 0) {i : Nat} {v : UInt8} (hi : i < (entT x).length) (hv : (entT x)[i]? ≠ some v) : (rdE ((entT x).set i v)).1 ≠ 0 := by
  intro hz
  obtain ⟨y, n, hr⟩ : ∃ y n, rdE ((entT x).set i v) = (0, y, n) := ⟨_, _, by rw [← hz]⟩
  obtain ⟨more, hX, hy, _, _⟩ := ent_rdE hr
  clear hr hz
  have lx := line_not h
  have ly := line_not hy
  change (10 : UInt8) ∉ lineT x at lx
  change (10 : UInt8) ∉ lineT y at ly
  rw [entT_line, entT_line] at hX
  rw [entT_line] at hv hi
  have hlen : (lineT x).length + 1 = (lineT y).length + 1 + more.length := by
    have := congrArg List.length hX
    simp at this
    omega
  simp only [List.length_append, List.length_cons, List.length_nil] at hi
  -- the place of Y's newline
  have y10 : (lineT y ++ [10] ++ more)[(lineT y).length]? = some 10 := by simp
  rw [← hX] at y10
  by_cases hiY : i = (lineT y).length
  · subst hiY
    have hlt : (lineT y).length < (lineT x).length := by
      rcases Nat.lt_or_ge (lineT y).length (lineT x).length with hlt | hge
      · exact hlt
      · have e : (lineT y).length = (lineT x).length := by omega
        rw [e] at y10 hv
        rw [List.getElem?_set_self (by simp)] at y10
        injection y10 with y10
        subst y10
        exact absurd (by simp) hv
    have hpre : lineT y = (lineT x).take (lineT y).length := by
      have h1 := congrArg (List.take (lineT y).length) hX
      rw [List.take_set_of_le (Nat.le_refl _), List.take_append_of_le_length (by omega)] at h1
      rw [h1]; simp
    have hq := line_at y
    have hql := line_lt y
    rw [hpre, List.getElem?_take_of_lt hql] at hq
    rcases sp_of h hq with e | ⟨e, e1, e2⟩
    · have hb : bodyT y = bodyT x := by
        rw [← line_take y, hpre, List.take_take, Nat.min_eq_left (by omega), e, line_take]
      have := congrArg List.length (line_eq hb)
      omega
    · refine map_no hy ?_
      rw [← line_take y, hpre, List.take_take, Nat.min_eq_left (by omega), e, ← e2, ← line_take x, List.take_take, Nat.min_eq_left (by omega)]
  · rw [List.getElem?_set_ne hiY] at y10
    have hLe : (lineT y).length = (lineT x).length := by
      rcases Nat.lt_or_ge (lineT y).length (lineT x).length with hlt | hge
      · rw [List.getElem?_append_left hlt] at y10
        exact absurd (List.mem_of_getElem? y10) lx
      · omega
    have hm : more = [] := List.length_eq_zero_iff.1 (by omega)
    subst hm
    rw [List.append_nil] at hX
    have hil : i < (lineT x).length := by
      rcases Nat.lt_or_ge i (lineT x).length with hlt | hge
      · exact hlt
      · exact absurd (show i = (lineT y).length by omega) hiY
    rw [List.set_append_left _ _ hil] at hX
    have hL : (lineT x).set i v = lineT y := List.append_cancel_right hX
    rw [List.getElem?_append_left hil] at hv
    clear hX y10 hiY hlen hi
    have hp := line_at x
    have hpl := line_lt x
    have hq := line_at y
    have hql := line_lt y
    have hiv : (lineT y)[i]? = some v := by rw [← hL, List.getElem?_set_self hil]
    have hne : ∀ j, j ≠ i → (lineT y)[j]? = (lineT x)[j]? := fun j hj => by rw [← hL, List.getElem?_set_ne (fun e => hj e.symm)]
    by_cases hpq : (bodyT y).length = (bodyT x).length
    · rcases Nat.lt_trichotomy i (bodyT x).length with hlt | heq | hgt
      · have hb : bodyT y = (bodyT x).set i v := by
          rw [← line_take y, hpq, ← hL, List.take_set, line_take]
        have hN : itoa (sm (bodyT y)) = itoa (sm (bodyT x)) := by
          rw [← line_drop y, hpq, ← hL, List.drop_set_of_lt (by omega), line_drop]
        have b1 := sm_lt (bodyT x)
        have b2 := sm_lt (bodyT y)
        have e := itoa_inj (by omega) (by omega) (by omega) (by omega) hN
        have e' : sm (bodyT y) = sm (bodyT x) := by omega
        rw [hb] at e'
        refine sm_set hlt (body_len h) ?_ e'
        intro e3
        apply hv
        rw [lineT, List.getElem?_append_left hlt, List.getElem?_eq_getElem hlt, e3]
      · subst heq
        rw [hpq] at hq
        rw [hq] at hiv
        injection hiv with hiv
        subst hiv
        exact hv hp
      · have hb : bodyT y = bodyT x := by
          rw [← line_take y, hpq, ← hL, List.take_set_of_le (by omega), line_take]
        rw [line_eq hb] at hiv
        exact hv hiv
    · by_cases hiq : i = (bodyT y).length
      · have hip : (bodyT x).length ≠ i := fun e => hpq (by omega)
        rw [← hne _ hip] at hp
        rcases sp_of hy hp with e | ⟨e, e1, e2⟩
        · exact hpq e.symm
        · refine map_no h ?_
          rw [← line_take x, e, ← e2, ← line_take y, ← hL, List.take_take, List.take_set_of_le (by omega), Nat.min_eq_left (by omega)]
      · rw [hne _ (fun e => hiq e.symm)] at hq
        rcases sp_of h hq with e | ⟨e, e1, e2⟩
        · exact hpq e
        · have hip : i = (bodyT x).length := by
            refine Classical.byContradiction fun hip => ?_
            rw [← hne _ (fun e => hip e.symm)] at hp
            rcases sp_of hy hp with e3 | ⟨e3, e4, _⟩
            · exact hpq e3.symm
            · omega
          refine map_no hy ?_
          rw [← line_take y, e, ← hL, List.take_set_of_le (by omega), ← e2, ← line_take x, List.take_take, Nat.min_eq_left (by omega)]
end Go.Proofs.YtmepmiokpcddbabGreatDoor
