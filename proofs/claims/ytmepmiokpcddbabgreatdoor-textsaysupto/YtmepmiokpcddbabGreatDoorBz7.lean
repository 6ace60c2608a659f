/-
  text.readNumber, opText, readValue and readFrom.
  text.opText: what it writes.
-/
import Derived.Test.YtmepmiokpcddbabGreatDoorBz6
import Derived.Lib.ItoaLen
set_option linter.unusedVariables false
set_option linter.unusedSimpArgs false
namespace Go.Proofs.YtmepmiokpcddbabGreatDoor
open Go.RowKit Go.Lib

theorem rdN_of {l : List UInt8} {z : Int} (h : l.length ≤ 11) (h1 : atoiAll l = .ok z) : rdN l = if itoa z = l then some z else none := by
  unfold rdN; rw [if_neg (by omega), h1]
theorem rdN_no {l : List UInt8} (h1 : ∀ z, atoiAll l ≠ .ok z) : rdN l = none := by
  unfold rdN
  split
  · rfl
  · split
    · next v e => exact absurd e (h1 v)
    · rfl
theorem list_eq (s : ByteArray) : s.toList = s.data.toList := ByteArray.toList_eq s
set_option maxHeartbeats 1000000 in
theorem rdnum_any (s : ByteArray) (w : World) (hg : Gl w) :
    Calls Tryz.prog 70 #[.string s] w fun e w' => (∃ z : Int, e = .returned (.tuple #[.int .i64 z, .bool (rdN s.data.toList).isSome]) ∧ ∀ n, rdN s.data.toList = some n → z = n) ∧ Below w.heap.size w w' := by
  have hl : s.data.toList.length = s.size := by simp
  by_cases h11 : 11 < s.size
  · have g1 : (11 : Int) < (s.size : Int) := by omega
    have HR := hideP (show rdN s.data.toList = none by unfold rdN; rw [if_pos (by omega)])
    clear hl h11
    go_enter Tryz.func70, Tryz.ntmps70
    go_wp2_with fail
    go_ret2
    exact ⟨⟨0, by rw [HR.out]; rfl, fun n e => by rw [HR.out] at e; cases e⟩, Below.refl _ _⟩
  · have g1 : ¬ (11 : Int) < (s.size : Int) := by omega
    have HA := hideP (atoi_any s (by omega) w hg)
    have HL := hideP (show s.data.toList.length ≤ 11 by omega)
    have hlt : s.size ≤ 11 := by omega
    clear hl h11
    go_enter Tryz.func70, Tryz.ntmps70
    go_wp2_with fail
    refine HA.out.mono ?_
    rintro e w1 ⟨z, ev, rfl, hc, hz, hb⟩
    rcases hc with ⟨rfl, ha⟩ | ⟨⟨t, v, rfl⟩, ha⟩
    · have HI := hideP (itoa_any z hz.1 hz.2 w1 (hg.below hb))
      have HN := hideP (rdN_of HL.out ha)
      clear ha hg hz
      have HB := hideP hb
      clear hb
      go_wp2_with fail
      refine HI.out.mono ?_
      rintro e w2 ⟨rfl, hb2⟩
      have hb3 := HB.out.trans (hb2.mono HB.out.size)
      by_cases he : itoa z = s.data.toList
      · have d1 : ((bs (itoa z)).toList == s.toList) = true := by rw [list_eq, list_eq, bs_data, he]; simp
        have HR := hideP (show rdN s.data.toList = some z by rw [HN.out, if_pos he])
        clear he
        go_wp2_with fail
        go_ret2
        exact ⟨⟨z, by rw [HR.out]; rfl, fun n e => by rw [HR.out] at e; injection e⟩, hb3⟩
      · have d1 : ((bs (itoa z)).toList == s.toList) = false := by rw [list_eq, list_eq, bs_data]; simpa using he
        have HR := hideP (show rdN s.data.toList = none by rw [HN.out, if_neg he])
        clear he
        go_wp2_with fail
        go_ret2
        exact ⟨⟨z, by rw [HR.out]; rfl, fun n e => by rw [HR.out] at e; cases e⟩, hb3⟩
    · have HR := hideP (rdN_no ha)
      clear ha
      go_wp2_with fail
      go_ret2
      exact ⟨⟨z, by rw [HR.out]; rfl, fun n e => by rw [HR.out] at e; cases e⟩, hb⟩
theorem ret_str {a b : ByteArray} (h : a = b) : Ending.returned (.string a) = .returned (.string b) := by rw [h]
theorem bs_size (l : List UInt8) : (bs l).size = l.length := rfl
theorem key_size {s : ByteArray} (h : keyB s = true) : s.size ≤ 6 := by simp [keyB] at h; omega
theorem itoa_size {n : Int} (h0 : -9223372036854775808 ≤ n) (h1 : n ≤ 9223372036854775807) : (bs (itoa n)).size ≤ 21 := by rw [bs_size]; exact itoa_length_le n h0 h1
/-- four cells that are stored one behind the other -/
def op0 : Array Value := #[.int .i64 0, .string ByteArray.empty, .string ByteArray.empty, .int .i64 0]
set_option maxHeartbeats 1000000 in
set_option maxRecDepth 100000 in
theorem rdval_any (kd : Int) (key val : ByteArray) (w : World) (hg : Gl w) :
    Calls Tryz.prog 111 #[.int .i64 kd, .string key, .string val] w fun e w' => (∃ z : Int, e = .returned (.tuple #[opV ⟨kd, key, ByteArray.empty, z⟩, .bool (rdN val.data.toList).isSome]) ∧ ∀ n, rdN val.data.toList = some n → z = n) ∧ Below w.heap.size w w' := by
  have HB := (Below.refl w.heap.size w).alloc (Nat.le_refl _) (.cells #[.int .i64 0, .string ⟨#[]⟩, .string ⟨#[]⟩, .int .i64 0] 93)
  have X := Box.new w 93 #[.int .i64 0, .string ⟨#[]⟩, .string ⟨#[]⟩, .int .i64 0]
  have hg1 := hg.below HB
  go_enter Tryz.func111, Tryz.ntmps111
  go_wp2_with fail
  generalize w.alloc (.cells #[.int .i64 0, .string ⟨#[]⟩, .string ⟨#[]⟩, .int .i64 0] 93) = w1 at HB X hg1 ⊢
  refine (rdnum_any val w1 hg1).mono ?_
  rintro e w2 ⟨⟨z, rfl, hz⟩, hb2⟩
  have hb3 := HB.trans (hb2.mono HB.size)
  obtain ⟨⟨c0, c1, c2, c3⟩, ⟨f0, f1, f2, f3⟩, R⟩ := box_four (X.below hb2) (.int .i64 kd) (.string key) (.string ⟨#[]⟩) (.int .i64 z)
  have r0 := R.cell 0 (v := .int .i64 kd) rfl
  have r1 := R.cell 1 (v := .string key) rfl
  have r2 := R.cell 2 (v := .string ⟨#[]⟩) rfl
  have r3 := R.cell 3 (v := .int .i64 z) rfl
  have HF := hideP (below_four hb3 (Nat.le_refl _) (.int .i64 kd) (.string key) (.string ⟨#[]⟩) (.int .i64 z))
  have HZ := hideP hz
  clear X HB hb2 hg hg1 hb3 R hz
  generalize hq : (rdN val.data.toList).isSome = q at ⊢
  have HQ := hideP hq
  clear hq
  go_wp2_with fail
  exact bodyPost_ret (v := .tuple #[opV ⟨kd, key, ByteArray.empty, z⟩, .bool q]) (by simp [results, Tryz.results111, go_sem, r0, r1, r2, r3, opV]; rfl) rfl ⟨⟨z, by rw [HQ.out], HZ.out⟩, HF.out⟩
set_option maxHeartbeats 1000000 in
set_option maxRecDepth 100000 in
theorem rdfrom_any (key rest : ByteArray) (w : World) (hg : Gl w) (hs : rest.size ≤ 4611686018427387904) :
    Calls Tryz.prog 112 #[.string key, .string rest] w fun e w' => (∃ o : Opr, e = .returned (.tuple #[opV o, .bool (rdF key.data.toList rest.data.toList).isSome]) ∧ ∀ p, rdF key.data.toList rest.data.toList = some p → o = p) ∧ Below w.heap.size w w' := by
  have HB := (Below.refl w.heap.size w).alloc (Nat.le_refl _) (.cells #[.int .i64 0, .string ⟨#[]⟩, .string ⟨#[]⟩, .int .i64 0] 93)
  have X := Box.new w 93 #[.int .i64 0, .string ⟨#[]⟩, .string ⟨#[]⟩, .int .i64 0]
  have hg1 := hg.below HB
  have HC := hideP (cut_any rest 42 (w.alloc (.cells #[.int .i64 0, .string ⟨#[]⟩, .string ⟨#[]⟩, .int .i64 0] 93)) hs)
  have HR := hideP (show rdF key.data.toList rest.data.toList = match cut rest.data.toList [42] with
    | (f, a, true) => (rdN a).map fun n => ⟨5, bs key.data.toList, bs f, n⟩
    | (f, _, false) => some ⟨3, bs key.data.toList, bs f, 0⟩ from rfl)
  generalize hr : cut rest.data.toList [42] = r at HC HR
  clear hr
  obtain ⟨f, a, b⟩ := r
  go_enter Tryz.func112, Tryz.ntmps112
  go_wp2_with fail
  refine HC.out.mono ?_
  clear HC
  generalize w.alloc (.cells #[.int .i64 0, .string ⟨#[]⟩, .string ⟨#[]⟩, .int .i64 0] 93) = w1 at HB X hg1 ⊢
  rintro e w2 ⟨rfl, hb2⟩
  have hb3 := HB.trans (hb2.mono HB.size)
  have X2 := X.below hb2
  have hg2 := hg1.below hb2
  clear X HB hb2 hg hg1
  cases b
  · obtain ⟨⟨c0, c1, c2, c3⟩, ⟨f0, f1, f2, f3⟩, R⟩ := box_four X2 (.int .i64 3) (.string key) (.string (bs f)) (.int .i64 0)
    have r0 := R.cell 0 (v := .int .i64 3) rfl
    have r1 := R.cell 1 (v := .string key) rfl
    have r2 := R.cell 2 (v := .string (bs f)) rfl
    have r3 := R.cell 3 (v := .int .i64 0) rfl
    have HF := hideP (below_four hb3 (Nat.le_refl _) (.int .i64 3) (.string key) (.string (bs f)) (.int .i64 0))
    have HV := hideP (show rdF key.data.toList rest.data.toList = some ⟨3, key, bs f, 0⟩ by rw [HR.out, bs_of])
    clear hb3 R X2 hg2 HR
    generalize bs f = s2 at *
    go_wp2_with fail
    exact bodyPost_ret (v := .tuple #[opV ⟨3, key, s2, 0⟩, .bool true]) (by simp [results, Tryz.results112, go_sem, r0, r1, r2, r3, opV]) rfl ⟨⟨⟨3, key, s2, 0⟩, by rw [HV.out]; rfl, fun p hp => by rw [HV.out] at hp; injection hp⟩, HF.out⟩
  · have HV := hideP (show rdF key.data.toList rest.data.toList = (rdN a).map fun n => ⟨5, key, bs f, n⟩ by rw [HR.out, bs_of])
    clear HR
    have HN := hideP (rdnum_any (bs a) w2 hg2)
    generalize bs f = s2 at HV ⊢
    have HB3 := hideP hb3
    clear hb3
    go_wp2_with fail
    refine HN.out.mono ?_
    rintro e w3 ⟨⟨z, rfl, hz⟩, hb4⟩
    rw [bs_data] at hz ⊢
    have hb5 := HB3.out.trans (hb4.mono HB3.out.size)
    obtain ⟨⟨c0, c1, c2, c3⟩, ⟨f0, f1, f2, f3⟩, R⟩ := box_four (X2.below hb4) (.int .i64 5) (.string key) (.string s2) (.int .i64 z)
    have r0 := R.cell 0 (v := .int .i64 5) rfl
    have r1 := R.cell 1 (v := .string key) rfl
    have r2 := R.cell 2 (v := .string s2) rfl
    have r3 := R.cell 3 (v := .int .i64 z) rfl
    have HF := hideP (below_four hb5 (Nat.le_refl _) (.int .i64 5) (.string key) (.string s2) (.int .i64 z))
    have HZ := hideP hz
    clear hb5 R X2 hg2 hz hb4 HN
    generalize hq : (rdN a).isSome = q at ⊢
    have HQ := hideP hq
    clear hq
    go_wp2_with fail
    refine bodyPost_ret (v := .tuple #[opV ⟨5, key, s2, z⟩, .bool q]) (by simp [results, Tryz.results112, go_sem, r0, r1, r2, r3, opV]) rfl ⟨⟨⟨5, key, s2, z⟩, ?_, ?_⟩, HF.out⟩
    · rw [HV.out, ← HQ.out]; simp
    · intro p hp
      rw [HV.out] at hp
      cases hn : rdN a with
      | none => rw [hn] at hp; cases hp
      | some n => rw [hn] at hp; injection hp with hp; rw [← hp, HZ.out n hn]
end Go.Proofs.YtmepmiokpcddbabGreatDoor

set_option linter.unusedVariables false
set_option linter.unusedSimpArgs false
namespace Go.Proofs.YtmepmiokpcddbabGreatDoor
open Go.RowKit
open Go.Lib hiding intOf

set_option maxHeartbeats 1000000 in
theorem opText_any (o : Opr) (w : World) (hg : Gl w) (hk : chkO o = 0) (h3 : -9223372036854775808 ≤ o.n) (h4 : o.n ≤ 9223372036854775807) :
    Calls Tryz.prog 64 #[opV o] w fun e w' => e = .returned (.string (bs (opT o))) ∧ Below w.heap.size w w' := by
  obtain ⟨h1, h2, k1, k2, _⟩ := chkO_zero.1 hk
  obtain ⟨kd, key, src, n⟩ := o
  simp only at h1 h2 h3 h4 k1 k2
  have s1 := key_size k1
  have s2 : kd = 3 ∨ kd = 5 → src.size ≤ 6 := fun h => key_size (k2 h).1
  have s3 := itoa_size h3 h4
  clear hk k1 k2
  unfold opV
  have HB := (Below.refl w.heap.size w).alloc (Nat.le_refl _) (.cells #[.int .i64 kd, .string key, .string src, .int .i64 n] 93)
  have X := Box.new w 93 #[.int .i64 kd, .string key, .string src, .int .i64 n]
  have hg1 := hg.below HB
  go_enter Tryz.func64, Tryz.ntmps64
  go_wp2_with fail
  generalize w.alloc (.cells #[.int .i64 kd, .string key, .string src, .int .i64 n] 93) = w1 at HB X hg1 ⊢
  refine (itoa_any n h3 h4 w1 hg1).mono ?_
  rintro e w2 ⟨rfl, hb2⟩
  have hb3 := HB.trans (hb2.mono HB.size)
  have X2 := X.below hb2
  have c0 := X2.cell 0 (v := .int .i64 kd) rfl
  have c1 := X2.cell 1 (v := .string key) rfl
  have c2 := X2.cell 2 (v := .string src) rfl
  clear X X2 HB hb2 hg hg1
  have HT := hideP (show (bs (itoa n)).data.toList = itoa n from rfl)
  generalize bs (itoa n) = t at s3 HT ⊢
  generalize w.heap.size = g at c0 c1 c2 ⊢
  have S2 := hideP s2
  clear s2
  rcases (show kd = 1 ∨ kd = 2 ∨ kd = 3 ∨ kd = 4 ∨ kd = 5 by omega) with rfl | rfl | rfl | rfl | rfl
  all_goals
    go_wp2_with fail
    all_goals
      first
      | (exfalso; rename_i hbig; have := S2.out; simp at hbig this; omega)
      | (go_ret
         refine ⟨ret_str (ba_ext ?_), hb3⟩
         simp [opT, bs, HT.out])
end Go.Proofs.YtmepmiokpcddbabGreatDoor
