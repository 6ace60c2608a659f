/-
  Rows of operations and of transactions in memory of the call's own (no body of the program in it).
  Entries in memory (no body of the program in it).
  text.bodyText and text.Entry: what they write.
-/
import Derived.Test.YtcjfkbponikadaaGreatDoorBt11
import Derived.Test.YtcjfkbponikadaaGreatDoorBt4
import Derived.Test.YtcjfkbponikadaaGreatDoorBt7
import Derived.Test.YtcjfkbponikadaaGreatDoorBt6
import Derived.Test.YtcjfkbponikadaaGreatDoorBt9
set_option linter.unusedVariables false
set_option linter.unusedSimpArgs false
namespace Go.Proofs.YtcjfkbponikadaaGreatDoor
open Go.RowKit

/-- the cells of a list of operations -/
def opCells : List Opr → List Value
  | [] => []
  | o :: r => .int .i64 o.kind :: .string o.key :: .string o.src :: .int .i64 o.n :: opCells r
theorem opCells_length (l : List Opr) : (opCells l).length = l.length * 4 := by
  induction l with
  | nil => rfl
  | cons p r ih => simp [opCells, ih]; omega
theorem opCells_append (l m : List Opr) : opCells (l ++ m) = opCells l ++ opCells m := by
  induction l with
  | nil => rfl
  | cons p r ih => simp [opCells, ih]
theorem opCells_get (l : List Opr) (i : Nat) (p : Opr) (h : l[i]? = some p) : (opCells l)[i * 4]? = some (.int .i64 p.kind) ∧ (opCells l)[i * 4 + 1]? = some (.string p.key) ∧ (opCells l)[i * 4 + 2]? = some (.string p.src) ∧ (opCells l)[i * 4 + 3]? = some (.int .i64 p.n) := by
  induction l generalizing i with
  | nil => simp at h
  | cons q r ih =>
    cases i with
    | zero => simp at h; subst h; simp [opCells]
    | succ i => simp at h; have := ih i h; rw [show (i + 1) * 4 = i * 4 + 1 + 1 + 1 + 1 by omega]; simpa [opCells] using this
theorem opInfo : (Tryz.prog.info? 97).map (fun i => (i.zero, i.size, i.bytes)) = some (some (.agg #[.int .i64 0, .string ByteArray.empty, .string ByteArray.empty, .int .i64 0]), 4, 48) := by kernel_rfl
theorem deedInfo : (Tryz.prog.info? 24).map (fun i => (i.zero, i.size, i.bytes)) = some (some (.agg #[.slice none 0 0]), 1, 24) := by kernel_rfl
/-- a slice of operations that the call itself has made -/
def OO (w : World) (B : Nat) (D : Option Addr) (c : Nat) (d : List Opr) : Prop := w.ownsRow B 97 4 (.slice D d.length c) d.length (opCells d)
section
variable {w w' : World} {B B' : Nat} {D : Option Addr} {c : Nat} {d : List Opr}
theorem OO.mono (h : OO w B D c d) (hB : B' ≤ B) : OO w B' D c d :=
  ⟨h.1, h.2.imp id fun ⟨g, cap, cur, h1, h2, h3⟩ => ⟨g, cap, cur, h1, Nat.le_trans hB h2, h3⟩⟩
theorem OO.below (h : OO w B D c d) (hb : Below w.heap.size w w') : OO w' B D c d :=
  ⟨h.1, h.2.imp id fun ⟨g, cap, cur, h1, h2, h3, h4⟩ => ⟨g, cap, cur, h1, h2, (hb.block g (Array.getElem?_eq_some_iff.1 h3).1).trans h3, h4⟩⟩
theorem OO.nil (w : World) (B : Nat) : OO w B none 0 [] := World.ownsRow_nil w _ _ _
theorem OO.os (h : OO w B D c d) : OS w w.heap.size D d := by
  rcases Nat.eq_zero_or_pos d.length with h0 | h0
  · rw [List.length_eq_zero_iff.1 h0]; exact OS.nil
  · obtain ⟨g, cap, hv, _, hlt⟩ := World.ownsRow.form h h0
    injection hv with a b e
    subst a; subst e
    have hc := h.cells (g := g) rfl
    intro i p hp
    obtain ⟨g1, g2, g3, g4⟩ := opCells_get d i p hp
    have h1 := hc _ _ g1
    have h2 := hc _ _ g2
    have h3 := hc _ _ g3
    have h4 := hc _ _ g4
    rw [Addr.add_lit] at h1 h2 h3 h4
    refine ⟨g, 0, rfl, hlt, h1, ?_, ?_, ?_⟩
    · rw [Nat.add_assoc]; exact h2
    · rw [Nat.add_assoc]; exact h3
    · rw [Nat.add_assoc]; exact h4
theorem OO.lt (h : OO w B D c d) {k : Nat} (hk : blk D = some k) : B ≤ k ∧ k < w.heap.size := World.ownsRow.lt h k (by rw [ownBlock_slice]; exact hk)
theorem OO.some_ (h : OO w B D c d) (hd : d ≠ []) : ∃ k, blk D = some k := by
  obtain ⟨g, cap, hv, _, _⟩ := World.ownsRow.form h (List.length_pos_iff.2 hd)
  injection hv with a b e
  subst a
  exact ⟨g, rfl⟩
end
/-- append of one operation onto such a row -/
theorem app_op (w : World) (base : Nat) (ty : TypeId) (D : Option Addr) (c : Nat) (d : List Opr) (hown : OO w base D c d) (o : Opr) (hl : d.length ≤ 5000000000) (hbase : base ≤ w.heap.size) :
    ∃ D' c' w', (Builtin.append_ #[22, 22] ty #[.slice D d.length c, .slice (some ⟨w.heap.size, 0, none⟩) 1 1]).run Tryz.prog (w.alloc (.cells #[.int .i64 o.kind, .string o.key, .string o.src, .int .i64 o.n] 97)) = .ok (.slice D' (d ++ [o]).length c') w' ∧ OO w' base D' c' (d ++ [o]) ∧
      (w.alloc (.cells #[.int .i64 o.kind, .string o.key, .string o.src, .int .i64 o.n] 97)).grownBy w' (blk D) ∧ (∀ B a, B ≤ base → Below B a w → Below B a w') ∧ (blk D' = blk D ∨ blk D' = some (w.heap.size + 1)) := by
  obtain ⟨i0, hi, hz0, hz1, hz2⟩ := info_parts opInfo
  have hc : ∀ j u, (opCells [o])[j]? = some u → (w.alloc (.cells (opCells [o]).toArray 97)).cell? ((⟨w.heap.size, 0, none⟩ : Addr).add j) = some u := by
    intro j u hu
    rw [Addr.add_lit]
    simp only [World.cell?]
    rw [heap_alloc_new]
    simp [hu]
  have hown' : (w.alloc (.cells (opCells [o]).toArray 97)).ownsRow base 97 4 (.slice D d.length c) d.length (opCells d) := World.ownsRow.alloc hown _
  obtain ⟨v', w', hrun, h2, h3, _, h5⟩ := run_append_own_at (P := Tryz.prog) (w.alloc (.cells (opCells [o]).toArray 97)) base 22 ty 97 i0 _ 4 48 Tryz.underlying22 hi hz0 hz1 hz2 rfl (by decide) _ d.length (opCells d) hown' ⟨w.heap.size, 0, none⟩ 1 1 (opCells [o]) (by simp [opCells]) hc
    (by intro u hu; simp [opCells] at hu; rcases hu with rfl | rfl | rfl | rfl <;> rfl) (by unfold maxLen; omega) (by omega) (by simp; omega)
  rw [← opCells_append, show d.length + 1 = (d ++ [o]).length by simp] at h2
  obtain ⟨D', c', rfl⟩ : ∃ D' c', v' = .slice D' (d ++ [o]).length c' := by
    rcases h2.2 with ⟨rfl, h0⟩ | ⟨g, cap, cur, rfl, _⟩
    · exact ⟨none, 0, by rw [h0]⟩
    · exact ⟨_, _, rfl⟩
  rw [ownBlock_slice, ownBlock_slice] at h5
  refine ⟨D', c', w', hrun, h2, by rw [ownBlock_slice] at h3; exact h3, fun B a hB hb => ?_, by simpa using h5⟩
  have hb' := hb.alloc (Nat.le_trans hB hbase) (.cells (opCells [o]).toArray 97)
  exact hb'.grown h3 (by simp; omega) fun k hk => Nat.le_trans hB (World.ownsRow.lt hown' k hk).1
end Go.Proofs.YtcjfkbponikadaaGreatDoor

set_option linter.unusedVariables false
set_option linter.unusedSimpArgs false
namespace Go.Proofs.YtcjfkbponikadaaGreatDoor
open Go.RowKit

/-- an entry as a value: where its lists lie -/
structure Em where
  D : Option Addr
  c : Nat
  d : List Opr
  isM : Bool
  m : Mp
def emC (x : Em) : Array Value := #[.slice x.D x.d.length x.c, .bool x.isM, .slice x.m.A x.m.cs.length x.m.ca, .slice x.m.O x.m.os.length x.m.co]
def emV (x : Em) : Value := .agg (emC x)
/-- what it reads as -/
structure ES (w : World) (x : Em) : Prop where
  ops : OS w w.heap.size x.D x.d
  map : MS w x.m
  bd : ∀ o ∈ x.d, -9223372036854775808 ≤ o.n ∧ o.n ≤ 9223372036854775807
theorem ES.below {w w' : World} {x : Em} (h : ES w x) (hb : Below w.heap.size w w') : ES w' x := ⟨h.ops.go hb, h.map.below hb, h.bd⟩
def entOf (x : Em) : Ent := ⟨x.isM, x.d, x.m.cs, x.m.os⟩
/-- an entry of the call's own -/
structure EO (w : World) (B : Nat) (x : Em) : Prop where
  ops : OO w B x.D x.c x.d
  map : MO w B x.m
theorem EO.below {w w' : World} {B : Nat} {x : Em} (h : EO w B x) (hb : Below w.heap.size w w') : EO w' B x := ⟨h.ops.below hb, h.map.below hb⟩
theorem EO.mono {w : World} {B B' : Nat} {x : Em} (h : EO w B x) (hB : B' ≤ B) : EO w B' x := ⟨h.ops.mono hB, h.map.mono hB⟩
/-- no entry -/
def em0 : Em := ⟨none, 0, [], false, noM⟩
theorem em0_eo (w : World) (B : Nat) : EO w B em0 := ⟨OO.nil _ _, noM_mo _ _⟩
end Go.Proofs.YtcjfkbponikadaaGreatDoor

set_option linter.unusedVariables false
set_option linter.unusedSimpArgs false
namespace Go.Proofs.YtcjfkbponikadaaGreatDoor
open Go.RowKit
open Go.Lib hiding intOf

/-- what bodyText answers -/
def boA (x : Ent) : ByteArray := if chkE x = 0 then bs (bodyT x) else ByteArray.empty
/-- what Entry answers -/
def enA (x : Ent) : ByteArray := if chkE x = 0 then bs (entT x) else ByteArray.empty
set_option maxHeartbeats 1000000 in
set_option maxRecDepth 100000 in
theorem body_any (x : Em) (w : World) (hx : ES w x) (hg : Gl w) :
    Calls Tryz.prog 86 #[emV x] w fun e w' => e = .returned (.tuple #[.string (boA (entOf x)), .int .i64 (chkE (entOf x))]) ∧ Below w.heap.size w w' := by
  have b0 := (Below.refl w.heap.size w).alloc (Nat.le_refl _) (.cells (emC x) 45)
  have x0 := Box.new w 45 (emC x)
  have hx1 := hx.below b0
  have hg1 := hg.below b0
  obtain ⟨D, c, d, isM, ⟨A, ca, cs, O, co, os⟩⟩ := x
  unfold emV
  unfold emC at b0 x0 hx1 hg1 ⊢
  simp only at b0 x0 hx1 hg1 ⊢
  have c0 := x0.cell 0 (v := .slice D d.length c) rfl
  have c1 := x0.cell 1 (v := .bool isM) rfl
  have c2 := x0.cell 2 (v := .slice A cs.length ca) rfl
  have c3 := x0.cell 3 (v := .slice O os.length co) rfl
  have HD := hideP (deedT_any D c d _ hx1.ops hx1.bd hg1)
  have HM := hideP (mapT_any _ _ hx1.map hg1)
  simp only at HM
  clear hx hx1 hg hg1 x0
  cases isM
  · have HV := hideP (show boA (entOf ⟨D, c, d, false, ⟨A, ca, cs, O, co, os⟩⟩) = ddA d from rfl)
    have HK := hideP (show chkE (entOf ⟨D, c, d, false, ⟨A, ca, cs, O, co, os⟩⟩) = chkD d from rfl)
    go_enter Tryz.func86, Tryz.ntmps86
    go_wp2_with fail
    refine HD.out.mono ?_
    clear HD HM
    generalize w.alloc _ = w1 at b0 ⊢
    rintro e w2 ⟨rfl, hb2⟩
    have b2 := b0.trans (hb2.mono b0.size)
    go_wp2_with fail
    go_ret2
    exact ⟨by rw [HV.out, HK.out]; rfl, b2⟩
  · have HK := hideP (show chkE (entOf ⟨D, c, d, true, ⟨A, ca, cs, O, co, os⟩⟩) = chkM cs os from rfl)
    go_enter Tryz.func86, Tryz.ntmps86
    go_wp2_with fail
    refine HM.out.mono ?_
    clear HD HM
    generalize w.alloc _ = w1 at b0 ⊢
    rintro e w2 ⟨rfl, hb2⟩
    have b2 := b0.trans (hb2.mono b0.size)
    by_cases hc : chkM cs os = 0
    · have HV := hideP (show boA (entOf ⟨D, c, d, true, ⟨A, ca, cs, O, co, os⟩⟩) = bs (mapW ++ tM cs os) by unfold boA; rw [if_pos (by rw [HK.out]; exact hc)]; rfl)
      have hva : mpA cs os = bs (tM cs os) := by unfold mpA; rw [if_pos hc]
      have hsz : (bs (tM cs os)).size ≤ 256 := by
        have := body_len (x := ⟨true, [], cs, os⟩) hc
        simp only [bodyT, if_true, List.length_append] at this
        rw [bs_size]; omega
      have HT := hideP (show (bs (tM cs os)).data.toList = tM cs os from rfl)
      rw [hva, hc]
      have HC := hideP hc
      clear hc hva
      generalize bs (tM cs os) = tx at hsz HT ⊢
      go_wp2_with fail
      all_goals
        first
        | (exfalso; rename_i hbig; simp at hbig; omega)
        | (go_ret2
           refine ⟨?_, b2⟩
           rw [HV.out, HK.out, HC.out]
           have e : bs (mapW ++ tM cs os) = ⟨#[109, 97, 112, 32]⟩ ++ tx := ba_ext (by simp [bs, mapW, HT.out])
           rw [e]
           rfl)
    · have HV := hideP (show boA (entOf ⟨D, c, d, true, ⟨A, ca, cs, O, co, os⟩⟩) = ByteArray.empty by unfold boA; rw [if_neg (by rw [HK.out]; exact hc)])
      have d1 : (chkM cs os != 0) = true := by simpa using hc
      clear hc
      generalize hq : chkM cs os = q at d1 HK ⊢
      clear hq
      go_wp2_with fail
      go_ret2
      exact ⟨by rw [HV.out, HK.out]; rfl, b2⟩
set_option maxHeartbeats 1000000 in
set_option maxRecDepth 100000 in
theorem entry_any (x : Em) (w : World) (hx : ES w x) (hg : Gl w) :
    Calls Tryz.prog 19 #[emV x] w fun e w' => e = .returned (.tuple #[.string (enA (entOf x)), .int .i64 (chkE (entOf x))]) ∧ Below w.heap.size w w' := by
  have b0 := (Below.refl w.heap.size w).alloc (Nat.le_refl _) (.cells (emC x) 45)
  have x0 := Box.new w 45 (emC x)
  have HQ := hideP (body_any x _ (hx.below b0) (hg.below b0))
  have hg1 := hg.below b0
  generalize hent : entOf x = en at HQ ⊢
  clear hent
  obtain ⟨D, c, d, isM, ⟨A, ca, cs, O, co, os⟩⟩ := x
  unfold emV at HQ ⊢
  unfold emC at b0 x0 HQ hg1 ⊢
  simp only at b0 x0 HQ hg1 ⊢
  have c0 := x0.cell 0 (v := .slice D d.length c) rfl
  have c1 := x0.cell 1 (v := .bool isM) rfl
  have c2 := x0.cell 2 (v := .slice A cs.length ca) rfl
  have c3 := x0.cell 3 (v := .slice O os.length co) rfl
  go_enter Tryz.func19, Tryz.ntmps19
  go_wp2_with fail
  refine HQ.out.mono ?_
  clear HQ x0 hx hg c0 c1 c2 c3
  generalize w.alloc _ = w1 at b0 hg1 ⊢
  rintro e w2 ⟨rfl, hb2⟩
  have b2 := b0.trans (hb2.mono b0.size)
  have hg2 := hg1.below hb2
  by_cases hc : chkE en = 0
  · have HV := hideP (show enA en = bs (entT en) by unfold enA; rw [if_pos hc])
    have hvb : boA en = bs (bodyT en) := by unfold boA; rw [if_pos hc]
    have hsz : (bs (bodyT en)).size ≤ 256 := body_len hc
    have hsm := sm_lt (bodyT en)
    have HS := hideP (sum_any (bs (bodyT en)) w2 (by omega))
    have HI := hideP (itoa_any (sm (bodyT en) : Int) (by omega) (by omega) w2 hg2)
    have hsi := itoa_size (n := (sm (bodyT en) : Int)) (by omega) (by omega)
    have HE := hideP (show (bs (entT en)).data.toList = (bs (bodyT en)).data.toList ++ 32 :: ((bs (itoa (sm (bodyT en) : Int))).data.toList ++ [10]) from rfl)
    rw [bs_data] at HS
    rw [hvb, hc]
    have HC := hideP hc
    clear hc hvb hb2 hsm
    generalize bs (itoa (sm (bodyT en) : Int)) = ti at hsi HI HE ⊢
    generalize (sm (bodyT en) : Int) = zz at HS HI
    generalize bs (bodyT en) = tb at hsz HS HE ⊢
    go_wp2_with (first
      | (go_at_call 22; refine HS.out.mono ?_; rintro e w3 ⟨rfl, rfl⟩)
      | (go_at_call 71; refine HI.out.mono ?_; rintro e w3 ⟨rfl, hb3⟩))
    all_goals
      first
      | (exfalso; rename_i hbig; simp at hbig; omega)
      | (go_ret2
         refine ⟨?_, b2.trans (hb3.mono b2.size)⟩
         rw [HV.out, HC.out]
         have e : bs (entT en) = tb ++ ⟨#[32]⟩ ++ ti ++ ⟨#[10]⟩ := ba_ext (by rw [HE.out]; simp)
         rw [e]
         rfl)
  · have HV := hideP (show enA en = ByteArray.empty by unfold enA; rw [if_neg hc])
    have d1 : (chkE en != 0) = true := by simpa using hc
    clear hc
    generalize boA en = tb at ⊢
    generalize hq : chkE en = q at d1 ⊢
    have HQ2 := hideP hq
    clear hq
    go_wp2_with fail
    go_ret2
    exact ⟨by rw [HV.out, HQ2.out]; rfl, b2⟩
end Go.Proofs.YtcjfkbponikadaaGreatDoor
