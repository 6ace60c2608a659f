/-
  text.readOp: what it reads.
-/
import Derived.Test.YtmepmiokpcddbabGreatDoorCa7
import Derived.Test.YtmepmiokpcddbabGreatDoorCa14
set_option linter.unusedVariables false
set_option linter.unusedSimpArgs false
namespace Go.Proofs.YtmepmiokpcddbabGreatDoor
open Go.RowKit
open Go.Lib hiding intOf

theorem ext_take (s : ByteArray) (n : Nat) : (s.extract 0 n).data.toList = s.data.toList.take n := extract_from_zero s n
theorem ext_drop (s : ByteArray) (n : Nat) : (s.extract n s.size).data.toList = s.data.toList.drop n := by rw [extract_to_end]
theorem prO_of {l k r : List UInt8} {c : UInt8} (h : sgn l = some (k, c, r)) : prO l = if c = 60 then rdF k r else (rdN r).map fun n => ⟨kdOf c, bs k, ByteArray.empty, n⟩ := by unfold prO; rw [h]
set_option maxHeartbeats 2000000 in
set_option maxRecDepth 100000 in
theorem rdop_any (s : ByteArray) (w : World) (hg : Gl w) (hs : s.size < 4294967281) :
    Calls Tryz.prog 69 #[.string s] w fun e w' => (∃ o : Opr, e = .returned (.tuple #[opV o, .bool (prO s.data.toList).isSome]) ∧ ∀ p, prO s.data.toList = some p → o = p) ∧ Below w.heap.size w w' := by
  have HB := (Below.refl w.heap.size w).alloc (Nat.le_refl _) (.cells #[.int .i64 0, .string ⟨#[]⟩, .string ⟨#[]⟩, .int .i64 0] 93)
  have X := Box.new w 93 #[.int .i64 0, .string ⟨#[]⟩, .string ⟨#[]⟩, .int .i64 0]
  have hg1 := hg.below HB
  have HC := hideP (any_any s (w.alloc (.cells #[.int .i64 0, .string ⟨#[]⟩, .string ⟨#[]⟩, .int .i64 0] 93)) hs)
  unfold sgS at HC
  go_enter Tryz.func69, Tryz.ntmps69
  go_wp2_with fail
  refine HC.out.mono ?_
  clear HC
  generalize w.alloc (.cells #[.int .i64 0, .string ⟨#[]⟩, .string ⟨#[]⟩, .int .i64 0] 93) = w1 at HB X hg1 ⊢
  rintro e w2 ⟨rfl, hb2⟩
  have hb3 := HB.trans (hb2.mono HB.size)
  have X2 := X.below hb2
  have hg2 := hg1.below hb2
  clear X HB hb2 hg hg1
  cases hsg : sgn s.data.toList with
  | none =>
    rw [sgn_no hsg]
    have HV := hideP (show prO s.data.toList = none by unfold prO; rw [hsg])
    obtain ⟨⟨c0, c1, c2, c3⟩, ⟨f0, f1, f2, f3⟩, R⟩ := box_four X2 (.int .i64 0) (.string ⟨#[]⟩) (.string ⟨#[]⟩) (.int .i64 0)
    have r0 := R.cell 0 (v := .int .i64 0) rfl
    have r1 := R.cell 1 (v := .string ⟨#[]⟩) rfl
    have r2 := R.cell 2 (v := .string ⟨#[]⟩) rfl
    have r3 := R.cell 3 (v := .int .i64 0) rfl
    have HF := hideP (below_four hb3 (Nat.le_refl _) (.int .i64 0) (.string ⟨#[]⟩) (.string ⟨#[]⟩) (.int .i64 0))
    clear hb3 R X2 hg2 hsg
    go_wp2_with fail
    exact bodyPost_ret (v := .tuple #[opV ⟨0, ⟨#[]⟩, ⟨#[]⟩, 0⟩, .bool false]) (by simp [results, Tryz.results69, go_sem, r0, r1, r2, r3, opV]) rfl ⟨⟨⟨0, ⟨#[]⟩, ⟨#[]⟩, 0⟩, by rw [HV.out]; rfl, fun p hp => by rw [HV.out] at hp; cases hp⟩, HF.out⟩
  | some t =>
    obtain ⟨k, c, r⟩ := t
    obtain ⟨hl, hc, hk, hi⟩ := sgn_at hsg
    rw [hi]
    have HV := hideP (prO_of hsg)
    have hsz : s.size = k.length + (r.length + 1) := by
      have := congrArg List.length hl
      simp at this
      exact this
    have hx : s[k.length]'(by omega) = c := by
      have h1 : s.data.toList[k.length]? = some c := by rw [hl]; simp
      have h2 : s.data.toList[k.length]? = some (s[k.length]'(by omega)) := data_getElem? s _ (by omega)
      rw [h2] at h1
      injection h1
    have K1 := hideP (show (s.extract 0 k.length).data.toList = k by rw [ext_take, hl]; simp)
    have K2 := hideP (show (s.extract (k.length + 1) s.size).data.toList = r by rw [ext_drop, hl, List.drop_append]; simp)
    have K3 := hideP (show (s.extract (k.length + 1) s.size).size ≤ 4611686018427387904 by
      have : (s.extract (k.length + 1) s.size).data.toList.length = (s.extract (k.length + 1) s.size).size := by simp
      rw [K2.out] at this
      omega)
    have g0 : ¬ ((k.length : Nat) : Int) < 0 := by omega
    have g1 : (0 : Int) ≤ ((k.length : Nat) : Int) := by omega
    have g2 : ((k.length : Nat) : Int) ≤ (s.size : Int) := by omega
    have g2' : ((k.length : Nat) : Int) < (s.size : Int) := by omega
    have g3 : (0 : Int) ≤ ((k.length : Nat) : Int) + 1 := by omega
    have g4 : ((k.length : Nat) : Int) + 1 ≤ (s.size : Int) := by omega
    have pw : IntKind.i64.wrap (((k.length : Nat) : Int) + 1) = ((k.length : Nat) : Int) + 1 := by simp only [IntKind.wrap_i64]; omega
    have tn : (((k.length : Nat) : Int) + 1).toNat = k.length + 1 := by omega
    have hc4 : c = 61 ∨ c = 43 ∨ c = 60 ∨ c = 63 := by simpa [signs] using hc
    have hlt : k.length < s.size := by omega
    have hxn : (s[k.length]'hlt).toNat = c.toNat := by rw [hx]
    clear hl hc hk hi hsg hx hsz
    generalize hkl : k.length = n at *
    clear hkl
    go_wp2_with fail
    go_region
    have X3 := X2.drew
    have hb4 := hb3.drew
    have hg4 := hg2.below (Below.refl _ _).drew
    clear X2 hb3 hg2
    generalize w2.drew = w3 at X3 hb4 hg4 ⊢
    rcases hc4 with rfl | rfl | rfl | rfl
    · have HP := hideP (show prO s.data.toList = (rdN r).map fun n => ⟨1, bs k, ByteArray.empty, n⟩ by rw [HV.out, if_neg (by decide)]; rfl)
      have hxv : ((s[n]'hlt).toNat : Int) = 61 := by rw [hxn]; rfl
      have HR := hideP (rdval_any 1 (s.extract 0 n) (s.extract (n + 1) s.size) w3 hg4)
      clear HV hxn
      go_wp2_with fail
      refine HR.out.mono ?_
      clear HR
      rw [K2.out]
      rintro e w5 ⟨⟨z, rfl, hz⟩, hb5⟩
      have hb6 := hb4.trans (hb5.mono hb4.size)
      obtain ⟨⟨c0, c1, c2, c3⟩, ⟨f0, f1, f2, f3⟩, R⟩ := box_four (X3.below hb5) (.int .i64 1) (.string (s.extract 0 n)) (.string ByteArray.empty) (.int .i64 z)
      have r0 := R.cell 0 (v := .int .i64 1) rfl
      have r1 := R.cell 1 (v := .string (s.extract 0 n)) rfl
      have r2 := R.cell 2 (v := .string ByteArray.empty) rfl
      have r3 := R.cell 3 (v := .int .i64 z) rfl
      have HF := hideP (below_four hb6 (Nat.le_refl _) (.int .i64 1) (.string (s.extract 0 n)) (.string ByteArray.empty) (.int .i64 z))
      have HZ := hideP hz
      have HE := hideP (show bs k = s.extract 0 n by rw [← K1.out, bs_of])
      clear hb4 hb5 hb6 R X3 hg4 hz
      generalize s.extract 0 n = key at c1 c2 c3 f1 f2 f3 r0 r1 r2 r3 HF HE ⊢
      generalize hq : (rdN r).isSome = q at ⊢
      have HQ := hideP hq
      clear hq
      unfold opV
      go_wp2_with fail
      refine bodyPost_ret (v := .tuple #[opV ⟨1, key, ByteArray.empty, z⟩, .bool q]) (by simp [results, Tryz.results69, go_sem, r0, r1, r2, r3, opV]) rfl ⟨⟨⟨1, key, ByteArray.empty, z⟩, ?_, ?_⟩, HF.out⟩
      · rw [HP.out, ← HQ.out]; simp
      · intro p hp
        rw [HP.out] at hp
        cases hn : rdN r with
        | none => rw [hn] at hp; cases hp
        | some y => rw [hn] at hp; injection hp with hp; rw [← hp, HZ.out y hn, HE.out]
    · have HP := hideP (show prO s.data.toList = (rdN r).map fun n => ⟨2, bs k, ByteArray.empty, n⟩ by rw [HV.out, if_neg (by decide)]; rfl)
      have hxv : ((s[n]'hlt).toNat : Int) = 43 := by rw [hxn]; rfl
      have HR := hideP (rdval_any 2 (s.extract 0 n) (s.extract (n + 1) s.size) w3 hg4)
      clear HV hxn
      go_wp2_with fail
      refine HR.out.mono ?_
      clear HR
      rw [K2.out]
      rintro e w5 ⟨⟨z, rfl, hz⟩, hb5⟩
      have hb6 := hb4.trans (hb5.mono hb4.size)
      obtain ⟨⟨c0, c1, c2, c3⟩, ⟨f0, f1, f2, f3⟩, R⟩ := box_four (X3.below hb5) (.int .i64 2) (.string (s.extract 0 n)) (.string ByteArray.empty) (.int .i64 z)
      have r0 := R.cell 0 (v := .int .i64 2) rfl
      have r1 := R.cell 1 (v := .string (s.extract 0 n)) rfl
      have r2 := R.cell 2 (v := .string ByteArray.empty) rfl
      have r3 := R.cell 3 (v := .int .i64 z) rfl
      have HF := hideP (below_four hb6 (Nat.le_refl _) (.int .i64 2) (.string (s.extract 0 n)) (.string ByteArray.empty) (.int .i64 z))
      have HZ := hideP hz
      have HE := hideP (show bs k = s.extract 0 n by rw [← K1.out, bs_of])
      clear hb4 hb5 hb6 R X3 hg4 hz
      generalize s.extract 0 n = key at c1 c2 c3 f1 f2 f3 r0 r1 r2 r3 HF HE ⊢
      generalize hq : (rdN r).isSome = q at ⊢
      have HQ := hideP hq
      clear hq
      unfold opV
      go_wp2_with fail
      refine bodyPost_ret (v := .tuple #[opV ⟨2, key, ByteArray.empty, z⟩, .bool q]) (by simp [results, Tryz.results69, go_sem, r0, r1, r2, r3, opV]) rfl ⟨⟨⟨2, key, ByteArray.empty, z⟩, ?_, ?_⟩, HF.out⟩
      · rw [HP.out, ← HQ.out]; simp
      · intro p hp
        rw [HP.out] at hp
        cases hn : rdN r with
        | none => rw [hn] at hp; cases hp
        | some y => rw [hn] at hp; injection hp with hp; rw [← hp, HZ.out y hn, HE.out]
    · have HP := hideP (show prO s.data.toList = rdF k r by rw [HV.out, if_pos rfl])
      have hxv : ((s[n]'hlt).toNat : Int) = 60 := by rw [hxn]; rfl
      have HR := hideP (rdfrom_any (s.extract 0 n) (s.extract (n + 1) s.size) w3 hg4 K3.out)
      rw [K1.out, K2.out] at HR
      clear HV hxn
      go_wp2_with fail
      refine HR.out.mono ?_
      clear HR
      rintro e w5 ⟨⟨o, rfl, hz⟩, hb5⟩
      have hb6 := hb4.trans (hb5.mono hb4.size)
      obtain ⟨⟨c0, c1, c2, c3⟩, ⟨f0, f1, f2, f3⟩, R⟩ := box_four (X3.below hb5) (.int .i64 o.kind) (.string o.key) (.string o.src) (.int .i64 o.n)
      have r0 := R.cell 0 (v := .int .i64 o.kind) rfl
      have r1 := R.cell 1 (v := .string o.key) rfl
      have r2 := R.cell 2 (v := .string o.src) rfl
      have r3 := R.cell 3 (v := .int .i64 o.n) rfl
      have HF := hideP (below_four hb6 (Nat.le_refl _) (.int .i64 o.kind) (.string o.key) (.string o.src) (.int .i64 o.n))
      have HZ := hideP hz
      clear hb4 hb5 hb6 R X3 hg4 hz
      generalize hq : (rdF k r).isSome = q at ⊢
      have HQ := hideP hq
      clear hq
      unfold opV
      go_wp2_with fail
      exact bodyPost_ret (v := .tuple #[opV o, .bool q]) (by simp [results, Tryz.results69, go_sem, r0, r1, r2, r3, opV]) rfl ⟨⟨o, by rw [HP.out, ← HQ.out], fun p hp => HZ.out p (by rw [← HP.out]; exact hp)⟩, HF.out⟩
    · have HP := hideP (show prO s.data.toList = (rdN r).map fun n => ⟨4, bs k, ByteArray.empty, n⟩ by rw [HV.out, if_neg (by decide)]; rfl)
      have hxv : ((s[n]'hlt).toNat : Int) = 63 := by rw [hxn]; rfl
      have HR := hideP (rdval_any 4 (s.extract 0 n) (s.extract (n + 1) s.size) w3 hg4)
      clear HV hxn
      go_wp2_with fail
      refine HR.out.mono ?_
      clear HR
      rw [K2.out]
      rintro e w5 ⟨⟨z, rfl, hz⟩, hb5⟩
      have hb6 := hb4.trans (hb5.mono hb4.size)
      obtain ⟨⟨c0, c1, c2, c3⟩, ⟨f0, f1, f2, f3⟩, R⟩ := box_four (X3.below hb5) (.int .i64 4) (.string (s.extract 0 n)) (.string ByteArray.empty) (.int .i64 z)
      have r0 := R.cell 0 (v := .int .i64 4) rfl
      have r1 := R.cell 1 (v := .string (s.extract 0 n)) rfl
      have r2 := R.cell 2 (v := .string ByteArray.empty) rfl
      have r3 := R.cell 3 (v := .int .i64 z) rfl
      have HF := hideP (below_four hb6 (Nat.le_refl _) (.int .i64 4) (.string (s.extract 0 n)) (.string ByteArray.empty) (.int .i64 z))
      have HZ := hideP hz
      have HE := hideP (show bs k = s.extract 0 n by rw [← K1.out, bs_of])
      clear hb4 hb5 hb6 R X3 hg4 hz
      generalize s.extract 0 n = key at c1 c2 c3 f1 f2 f3 r0 r1 r2 r3 HF HE ⊢
      generalize hq : (rdN r).isSome = q at ⊢
      have HQ := hideP hq
      clear hq
      unfold opV
      go_wp2_with fail
      refine bodyPost_ret (v := .tuple #[opV ⟨4, key, ByteArray.empty, z⟩, .bool q]) (by simp [results, Tryz.results69, go_sem, r0, r1, r2, r3, opV]) rfl ⟨⟨⟨4, key, ByteArray.empty, z⟩, ?_, ?_⟩, HF.out⟩
      · rw [HP.out, ← HQ.out]; simp
      · intro p hp
        rw [HP.out] at hp
        cases hn : rdN r with
        | none => rw [hn] at hp; cases hp
        | some y => rw [hn] at hp; injection hp with hp; rw [← hp, HZ.out y hn, HE.out]
end Go.Proofs.YtmepmiokpcddbabGreatDoor
