/-
  Boxed variables of the call's own (no program in it).
  text.readNumber, opText, readValue and readFrom.
-/
import Derived.Test.YtcjfkbponikadaaGreatDoorBt2
import Derived.OwnWalk
import Derived.Test.YtcjfkbponikadaaGreatDoorBt4
import Derived.Lib.ItoaLen
set_option linter.unusedVariables false
set_option linter.unusedSimpArgs false
namespace Go.Proofs.YtcjfkbponikadaaGreatDoor
open Go.RowKit

/-- a boxed variable: its cells -/
def Box (w : World) (g : Nat) (t : TypeId) (cs : Array Value) : Prop := w.heap[g]? = some (.cells cs t (0, 0))
section
variable {w w' : World} {g : Nat} {t : TypeId} {cs : Array Value}
theorem Box.lt (h : Box w g t cs) : g < w.heap.size := (Array.getElem?_eq_some_iff.1 h).1
theorem Box.cell (h : Box w g t cs) (i : Nat) {v : Value} (hv : cs[i]? = some v) : w.cell? ⟨g, i, none⟩ = some v := by
  simp only [World.cell?]
  rw [h]
  simp [hv]
theorem Box.frozen (h : Box w g t cs) (i : Nat) : w.frozen? ⟨g, i, none⟩ = false := by simp [World.frozen?, show w.heap[g]? = _ from h]
theorem Box.keep (h : Box w g t cs) (hk : w'.heap[g]? = w.heap[g]?) : Box w' g t cs := hk.trans h
theorem Box.below (h : Box w g t cs) (hb : Below w.heap.size w w') : Box w' g t cs := h.keep (hb.block g h.lt)
theorem Box.drew (h : Box w g t cs) : Box w.drew g t cs := h
theorem Box.alloc (h : Box w g t cs) (o : Obj) : Box (w.alloc o) g t cs := h.keep (Below.heap_alloc _ _ _ h.lt)
theorem Box.new (w : World) (t : TypeId) (cs : Array Value) : Box (w.alloc (.cells cs t)) w.heap.size t cs := heap_alloc_new w _
theorem Box.set (h : Box w g t cs) (i : Nat) (v : Value) : Box (w.setCell ⟨g, i, none⟩ v) g t (cs.setIfInBounds i v) := by
  unfold Box at *
  simp [World.setCell, Array.getElem?_modify, h]
theorem Box.other (h : Box w g t cs) {a : Addr} (ha : a.block ≠ g) (v : Value) : Box (w.setCell a v) g t cs := h.keep (Below.heap_setCell _ _ _ _ (fun e => ha e.symm))
theorem Box.grown (h : Box w g t cs) {row : Option Nat} (hg : w.grownBy w' row) (hne : some g ≠ row) : Box w' g t cs := h.keep (hg.block g h.lt hne)
end
end Go.Proofs.YtcjfkbponikadaaGreatDoor

set_option linter.unusedVariables false
set_option linter.unusedSimpArgs false
namespace Go.Proofs.YtcjfkbponikadaaGreatDoor
open Go.RowKit Go.Lib

theorem rdN_of {l : List UInt8} {z : Int} (h : l.length ≤ 11) (h1 : atoiAll l = .ok z) : rdN l = if itoa z = l then some z else none := by
  unfold rdN; rw [if_neg (by omega), h1]
theorem rdN_no {l : List UInt8} (h1 : ∀ z, atoiAll l ≠ .ok z) : rdN l = none := by
  unfold rdN
  split
  · rfl
  · split
    · next v e => exact absurd e (h1 v)
    · rfl
theorem list_eq (s : ByteArray) : s.toList = s.data.toList := ByteArray.toList_eq s
set_option maxHeartbeats 1000000 in
theorem rdnum_any (s : ByteArray) (w : World) (hg : Gl w) :
    Calls Tryz.prog 74 #[.string s] w fun e w' => (∃ z : Int, e = .returned (.tuple #[.int .i64 z, .bool (rdN s.data.toList).isSome]) ∧ ∀ n, rdN s.data.toList = some n → z = n) ∧ Below w.heap.size w w' := by
  have hl : s.data.toList.length = s.size := by simp
  by_cases h11 : 11 < s.size
  · have g1 : (11 : Int) < (s.size : Int) := by omega
    have HR := hideP (show rdN s.data.toList = none by unfold rdN; rw [if_pos (by omega)])
    clear hl h11
    go_enter Tryz.func74, Tryz.ntmps74
    go_wp2_with fail
    go_ret2
    exact ⟨⟨0, by rw [HR.out]; rfl, fun n e => by rw [HR.out] at e; cases e⟩, Below.refl _ _⟩
  · have g1 : ¬ (11 : Int) < (s.size : Int) := by omega
    have HA := hideP (atoi_any s (by omega) w hg)
    have HL := hideP (show s.data.toList.length ≤ 11 by omega)
    have hlt : s.size ≤ 11 := by omega
    clear hl h11
    go_enter Tryz.func74, Tryz.ntmps74
    go_wp2_with fail
    refine HA.out.mono ?_
    rintro e w1 ⟨z, ev, rfl, hc, hz, hb⟩
    rcases hc with ⟨rfl, ha⟩ | ⟨⟨t, v, rfl⟩, ha⟩
    · have HI := hideP (itoa_any z hz.1 hz.2 w1 (hg.below hb))
      have HN := hideP (rdN_of HL.out ha)
      clear ha hg hz
      have HB := hideP hb
      clear hb
      go_wp2_with fail
      refine HI.out.mono ?_
      rintro e w2 ⟨rfl, hb2⟩
      have hb3 := HB.out.trans (hb2.mono HB.out.size)
      by_cases he : itoa z = s.data.toList
      · have d1 : ((bs (itoa z)).toList == s.toList) = true := by rw [list_eq, list_eq, bs_data, he]; simp
        have HR := hideP (show rdN s.data.toList = some z by rw [HN.out, if_pos he])
        clear he
        go_wp2_with fail
        go_ret2
        exact ⟨⟨z, by rw [HR.out]; rfl, fun n e => by rw [HR.out] at e; injection e⟩, hb3⟩
      · have d1 : ((bs (itoa z)).toList == s.toList) = false := by rw [list_eq, list_eq, bs_data]; simpa using he
        have HR := hideP (show rdN s.data.toList = none by rw [HN.out, if_neg he])
        clear he
        go_wp2_with fail
        go_ret2
        exact ⟨⟨z, by rw [HR.out]; rfl, fun n e => by rw [HR.out] at e; cases e⟩, hb3⟩
    · have HR := hideP (rdN_no ha)
      clear ha
      go_wp2_with fail
      go_ret2
      exact ⟨⟨z, by rw [HR.out]; rfl, fun n e => by rw [HR.out] at e; cases e⟩, hb⟩
theorem ret_str {a b : ByteArray} (h : a = b) : Ending.returned (.string a) = .returned (.string b) := by rw [h]
theorem bs_size (l : List UInt8) : (bs l).size = l.length := rfl
theorem key_size {s : ByteArray} (h : keyB s = true) : s.size ≤ 6 := by simp [keyB] at h; omega
theorem itoa_size {n : Int} (h0 : -9223372036854775808 ≤ n) (h1 : n ≤ 9223372036854775807) : (bs (itoa n)).size ≤ 21 := by rw [bs_size]; exact itoa_length_le n h0 h1
set_option maxHeartbeats 1000000 in
theorem opText_any (o : Opr) (w : World) (hg : Gl w) (hk : chkO o = 0) (h3 : -9223372036854775808 ≤ o.n) (h4 : o.n ≤ 9223372036854775807) :
    Calls Tryz.prog 68 #[opV o] w fun e w' => e = .returned (.string (bs (opT o))) ∧ Below w.heap.size w w' := by
  obtain ⟨h1, h2, k1, k2, _⟩ := chkO_zero.1 hk
  obtain ⟨kd, key, src, n⟩ := o
  simp only at h1 h2 h3 h4 k1 k2
  have s1 := key_size k1
  have s2 : kd = 3 ∨ kd = 5 → src.size ≤ 6 := fun h => key_size (k2 h).1
  have s3 := itoa_size h3 h4
  clear hk k1 k2
  unfold opV
  have HB := (Below.refl w.heap.size w).alloc (Nat.le_refl _) (.cells #[.int .i64 kd, .string key, .string src, .int .i64 n] 97)
  have X := Box.new w 97 #[.int .i64 kd, .string key, .string src, .int .i64 n]
  have hg1 := hg.below HB
  go_enter Tryz.func68, Tryz.ntmps68
  go_wp2_with fail
  generalize w.alloc (.cells #[.int .i64 kd, .string key, .string src, .int .i64 n] 97) = w1 at HB X hg1 ⊢
  refine (itoa_any n h3 h4 w1 hg1).mono ?_
  rintro e w2 ⟨rfl, hb2⟩
  have hb3 := HB.trans (hb2.mono HB.size)
  have X2 := X.below hb2
  have c0 := X2.cell 0 (v := .int .i64 kd) rfl
  have c1 := X2.cell 1 (v := .string key) rfl
  have c2 := X2.cell 2 (v := .string src) rfl
  clear X X2 HB hb2 hg hg1
  have HT := hideP (show (bs (itoa n)).data.toList = itoa n from rfl)
  generalize bs (itoa n) = t at s3 HT ⊢
  generalize w.heap.size = g at c0 c1 c2 ⊢
  have S2 := hideP s2
  clear s2
  rcases (show kd = 1 ∨ kd = 2 ∨ kd = 3 ∨ kd = 4 ∨ kd = 5 by omega) with rfl | rfl | rfl | rfl | rfl
  all_goals
    go_wp2_with fail
    all_goals
      first
      | (exfalso; rename_i hbig; have := S2.out; simp at hbig this; omega)
      | (go_ret
         refine ⟨ret_str (ba_ext ?_), hb3⟩
         simp [opT, bs, HT.out])
/-- four cells that are stored one behind the other -/
theorem box_four {w : World} {g : Nat} {t : TypeId} {a b c d : Value} (h : Box w g t #[a, b, c, d]) (x y z u : Value) :
    (w.cell? ⟨g, 0, none⟩ = some a ∧ (w.setCell ⟨g, 0, none⟩ x).cell? ⟨g, 1, none⟩ = some b ∧ ((w.setCell ⟨g, 0, none⟩ x).setCell ⟨g, 1, none⟩ y).cell? ⟨g, 2, none⟩ = some c ∧ (((w.setCell ⟨g, 0, none⟩ x).setCell ⟨g, 1, none⟩ y).setCell ⟨g, 2, none⟩ z).cell? ⟨g, 3, none⟩ = some d) ∧
    (w.frozen? ⟨g, 0, none⟩ = false ∧ (w.setCell ⟨g, 0, none⟩ x).frozen? ⟨g, 1, none⟩ = false ∧ ((w.setCell ⟨g, 0, none⟩ x).setCell ⟨g, 1, none⟩ y).frozen? ⟨g, 2, none⟩ = false ∧ (((w.setCell ⟨g, 0, none⟩ x).setCell ⟨g, 1, none⟩ y).setCell ⟨g, 2, none⟩ z).frozen? ⟨g, 3, none⟩ = false) ∧
    Box ((((w.setCell ⟨g, 0, none⟩ x).setCell ⟨g, 1, none⟩ y).setCell ⟨g, 2, none⟩ z).setCell ⟨g, 3, none⟩ u) g t #[x, y, z, u] := by
  have h1 := h.set 0 x
  have h2 := h1.set 1 y
  have h3 := h2.set 2 z
  have h4 := h3.set 3 u
  exact ⟨⟨h.cell 0 rfl, h1.cell 1 rfl, h2.cell 2 rfl, h3.cell 3 rfl⟩, ⟨h.frozen 0, h1.frozen 1, h2.frozen 2, h3.frozen 3⟩, h4⟩
theorem below_set1 {a w : World} {g i : Nat} {v : Value} (h : Below a.heap.size a w) (hg : a.heap.size ≤ g) : Below a.heap.size a (w.setCell ⟨g, i, none⟩ v) :=
  h.grown (row := some g) ⟨rfl, rfl, rfl, by simp [World.setCell], fun i _ hne => Below.heap_setCell w _ _ i (fun e => hne (by rw [e]))⟩ h.size (fun b hb => by injection hb with hb; subst hb; exact hg)
theorem below_four {a w : World} {g : Nat} (h : Below a.heap.size a w) (hg : a.heap.size ≤ g) (x y z u : Value) : Below a.heap.size a ((((w.setCell ⟨g, 0, none⟩ x).setCell ⟨g, 1, none⟩ y).setCell ⟨g, 2, none⟩ z).setCell ⟨g, 3, none⟩ u) :=
  below_set1 (below_set1 (below_set1 (below_set1 h hg) hg) hg) hg
def op0 : Array Value := #[.int .i64 0, .string ByteArray.empty, .string ByteArray.empty, .int .i64 0]
set_option maxHeartbeats 1000000 in
set_option maxRecDepth 100000 in
theorem rdval_any (kd : Int) (key val : ByteArray) (w : World) (hg : Gl w) :
    Calls Tryz.prog 117 #[.int .i64 kd, .string key, .string val] w fun e w' => (∃ z : Int, e = .returned (.tuple #[opV ⟨kd, key, ByteArray.empty, z⟩, .bool (rdN val.data.toList).isSome]) ∧ ∀ n, rdN val.data.toList = some n → z = n) ∧ Below w.heap.size w w' := by
  have HB := (Below.refl w.heap.size w).alloc (Nat.le_refl _) (.cells #[.int .i64 0, .string ⟨#[]⟩, .string ⟨#[]⟩, .int .i64 0] 97)
  have X := Box.new w 97 #[.int .i64 0, .string ⟨#[]⟩, .string ⟨#[]⟩, .int .i64 0]
  have hg1 := hg.below HB
  go_enter Tryz.func117, Tryz.ntmps117
  go_wp2_with fail
  generalize w.alloc (.cells #[.int .i64 0, .string ⟨#[]⟩, .string ⟨#[]⟩, .int .i64 0] 97) = w1 at HB X hg1 ⊢
  refine (rdnum_any val w1 hg1).mono ?_
  rintro e w2 ⟨⟨z, rfl, hz⟩, hb2⟩
  have hb3 := HB.trans (hb2.mono HB.size)
  obtain ⟨⟨c0, c1, c2, c3⟩, ⟨f0, f1, f2, f3⟩, R⟩ := box_four (X.below hb2) (.int .i64 kd) (.string key) (.string ⟨#[]⟩) (.int .i64 z)
  have r0 := R.cell 0 (v := .int .i64 kd) rfl
  have r1 := R.cell 1 (v := .string key) rfl
  have r2 := R.cell 2 (v := .string ⟨#[]⟩) rfl
  have r3 := R.cell 3 (v := .int .i64 z) rfl
  have HF := hideP (below_four hb3 (Nat.le_refl _) (.int .i64 kd) (.string key) (.string ⟨#[]⟩) (.int .i64 z))
  have HZ := hideP hz
  clear X HB hb2 hg hg1 hb3 R hz
  generalize hq : (rdN val.data.toList).isSome = q at ⊢
  have HQ := hideP hq
  clear hq
  go_wp2_with fail
  exact bodyPost_ret (v := .tuple #[opV ⟨kd, key, ByteArray.empty, z⟩, .bool q]) (by simp [results, Tryz.results117, go_sem, r0, r1, r2, r3, opV]; rfl) rfl ⟨⟨z, by rw [HQ.out], HZ.out⟩, HF.out⟩
set_option maxHeartbeats 1000000 in
set_option maxRecDepth 100000 in
theorem rdfrom_any (key rest : ByteArray) (w : World) (hg : Gl w) (hs : rest.size ≤ 4611686018427387904) :
    Calls Tryz.prog 118 #[.string key, .string rest] w fun e w' => (∃ o : Opr, e = .returned (.tuple #[opV o, .bool (rdF key.data.toList rest.data.toList).isSome]) ∧ ∀ p, rdF key.data.toList rest.data.toList = some p → o = p) ∧ Below w.heap.size w w' := by
  have HB := (Below.refl w.heap.size w).alloc (Nat.le_refl _) (.cells #[.int .i64 0, .string ⟨#[]⟩, .string ⟨#[]⟩, .int .i64 0] 97)
  have X := Box.new w 97 #[.int .i64 0, .string ⟨#[]⟩, .string ⟨#[]⟩, .int .i64 0]
  have hg1 := hg.below HB
  have HC := hideP (cut_any rest 42 (w.alloc (.cells #[.int .i64 0, .string ⟨#[]⟩, .string ⟨#[]⟩, .int .i64 0] 97)) hs)
  have HR := hideP (show rdF key.data.toList rest.data.toList = match cut rest.data.toList [42] with
    | (f, a, true) => (rdN a).map fun n => ⟨5, bs key.data.toList, bs f, n⟩
    | (f, _, false) => some ⟨3, bs key.data.toList, bs f, 0⟩ from rfl)
  generalize hr : cut rest.data.toList [42] = r at HC HR
  clear hr
  obtain ⟨f, a, b⟩ := r
  go_enter Tryz.func118, Tryz.ntmps118
  go_wp2_with fail
  refine HC.out.mono ?_
  clear HC
  generalize w.alloc (.cells #[.int .i64 0, .string ⟨#[]⟩, .string ⟨#[]⟩, .int .i64 0] 97) = w1 at HB X hg1 ⊢
  rintro e w2 ⟨rfl, hb2⟩
  have hb3 := HB.trans (hb2.mono HB.size)
  have X2 := X.below hb2
  have hg2 := hg1.below hb2
  clear X HB hb2 hg hg1
  cases b
  · obtain ⟨⟨c0, c1, c2, c3⟩, ⟨f0, f1, f2, f3⟩, R⟩ := box_four X2 (.int .i64 3) (.string key) (.string (bs f)) (.int .i64 0)
    have r0 := R.cell 0 (v := .int .i64 3) rfl
    have r1 := R.cell 1 (v := .string key) rfl
    have r2 := R.cell 2 (v := .string (bs f)) rfl
    have r3 := R.cell 3 (v := .int .i64 0) rfl
    have HF := hideP (below_four hb3 (Nat.le_refl _) (.int .i64 3) (.string key) (.string (bs f)) (.int .i64 0))
    have HV := hideP (show rdF key.data.toList rest.data.toList = some ⟨3, key, bs f, 0⟩ by rw [HR.out, bs_of])
    clear hb3 R X2 hg2 HR
    generalize bs f = s2 at *
    go_wp2_with fail
    exact bodyPost_ret (v := .tuple #[opV ⟨3, key, s2, 0⟩, .bool true]) (by simp [results, Tryz.results118, go_sem, r0, r1, r2, r3, opV]) rfl ⟨⟨⟨3, key, s2, 0⟩, by rw [HV.out]; rfl, fun p hp => by rw [HV.out] at hp; injection hp⟩, HF.out⟩
  · have HV := hideP (show rdF key.data.toList rest.data.toList = (rdN a).map fun n => ⟨5, key, bs f, n⟩ by rw [HR.out, bs_of])
    clear HR
    have HN := hideP (rdnum_any (bs a) w2 hg2)
    generalize bs f = s2 at HV ⊢
    have HB3 := hideP hb3
    clear hb3
    go_wp2_with fail
    refine HN.out.mono ?_
    rintro e w3 ⟨⟨z, rfl, hz⟩, hb4⟩
    rw [bs_data] at hz ⊢
    have hb5 := HB3.out.trans (hb4.mono HB3.out.size)
    obtain ⟨⟨c0, c1, c2, c3⟩, ⟨f0, f1, f2, f3⟩, R⟩ := box_four (X2.below hb4) (.int .i64 5) (.string key) (.string s2) (.int .i64 z)
    have r0 := R.cell 0 (v := .int .i64 5) rfl
    have r1 := R.cell 1 (v := .string key) rfl
    have r2 := R.cell 2 (v := .string s2) rfl
    have r3 := R.cell 3 (v := .int .i64 z) rfl
    have HF := hideP (below_four hb5 (Nat.le_refl _) (.int .i64 5) (.string key) (.string s2) (.int .i64 z))
    have HZ := hideP hz
    clear hb5 R X2 hg2 hz hb4 HN
    generalize hq : (rdN a).isSome = q at ⊢
    have HQ := hideP hq
    clear hq
    go_wp2_with fail
    refine bodyPost_ret (v := .tuple #[opV ⟨5, key, s2, z⟩, .bool q]) (by simp [results, Tryz.results118, go_sem, r0, r1, r2, r3, opV]) rfl ⟨⟨⟨5, key, s2, z⟩, ?_, ?_⟩, HF.out⟩
    · rw [HV.out, ← HQ.out]; simp
    · intro p hp
      rw [HV.out] at hp
      cases hn : rdN a with
      | none => rw [hn] at hp; cases hp
      | some n => rw [hn] at hp; injection hp with hp; rw [← hp, HZ.out n hn]
end Go.Proofs.YtcjfkbponikadaaGreatDoor
