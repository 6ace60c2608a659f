/-
  roref.Text: what it writes.
-/
import Derived.Test.YtmepmiokpcddbabGreatDoorCa8
import Derived.Test.YtmepmiokpcddbabGreatDoorCa9
import Derived.Deep.RegionLaw
set_option linter.unusedVariables false
set_option linter.unusedSimpArgs false
namespace Go.Proofs.YtmepmiokpcddbabGreatDoor
open Go.RowKit
open Go.Lib hiding intOf

/-- while the text is written -/
def RtI (w1 : World) (d : List Opr) (s i : Value) (wr : World) : Prop :=
  ∃ (k : Nat) (t : ByteArray), k ≤ d.length ∧ i = .int .i64 k ∧ s = .string t ∧ t.data.toList = tDk d k ∧ t.size ≤ 50 * k ∧ Below w1.heap.size w1 wr
theorem opT_op (kd : Int) (key src : ByteArray) (n : Int) : opT ⟨kd, key, src, n⟩ = if kd = 1 then key.data.toList ++ 61 :: itoa n else if kd = 2 then key.data.toList ++ 43 :: itoa n else if kd = 3 then key.data.toList ++ 60 :: src.data.toList
  else if kd = 4 then key.data.toList ++ 63 :: itoa n else key.data.toList ++ 60 :: (src.data.toList ++ 42 :: itoa n) := rfl
theorem app_data (a b : ByteArray) : (a ++ b).data.toList = a.data.toList ++ b.data.toList := by simp
theorem app_size (a b : ByteArray) : (a ++ b).size = a.size + b.size := ByteArray.size_append
set_option maxHeartbeats 4000000 in
set_option maxRecDepth 100000 in
theorem rtext_any (D : Option Addr) (cd : Nat) (d : List Opr) (w : World) (hD : OS w w.heap.size D d) (hc : chkD d = 0) :
    Calls Tryz.prog 12 #[.agg #[.slice D d.length cd]] w fun e w' => e = .returned (.string (bs (tD d))) ∧ Below w.heap.size w w' := by
  have b0 := (Below.refl w.heap.size w).alloc (Nat.le_refl _) (.cells #[.slice D d.length cd] 24)
  have x0 := Box.new w 24 #[.slice D d.length cd]
  have hD1 := hD.go b0
  have c0 := x0.cell 0 (v := .slice D d.length cd) rfl
  obtain ⟨hd1, hd8, hdo⟩ := chkD_zero.1 hc
  clear hc hD
  go_enter Tryz.func12, Tryz.ntmps12
  go_wp2_with fail
  generalize w.alloc (.cells #[.slice D d.length cd] 24) = w1 at b0 x0 hD1 c0 ⊢
  have HB := hideP b0
  clear b0
  go_loopw [3, 9] (RtI w1 d) (fun _ i _ => d.length - (intOf i).toNat)
  case atStart => exact ⟨0, _, Nat.zero_le _, rfl, rfl, rfl, Nat.le_refl _, Below.refl _ _⟩
  case round =>
    obtain ⟨k, t, hk, rfl, rfl, ht, hts, hb⟩ := hrel
    by_cases hkl : k < d.length
    · have hchk := hdo _ (List.getElem_mem hkl)
      obtain ⟨b, o, rfl, hbl, q1, q2, q3, q4⟩ := (hD1.below hb) k _ (List.getElem?_eq_getElem hkl)
      have hnx := tDk_next d k hkl
      generalize d[k] = p at hchk q1 q2 q3 q4 hnx
      obtain ⟨kd, key, src, n⟩ := p
      rw [opT_op] at hnx
      obtain ⟨h1, h2, k1, k2, k3, k5⟩ := chkO_zero.1 hchk
      simp only at q1 q2 q3 q4 h1 h2 k1 k2 k3 k5
      have s1 := key_size k1
      have s2 : kd = 3 ∨ kd = 5 → src.size ≤ 6 := fun h => key_size (k2 h).1
      have hba := hb.alloc hb.size (.cells #[.int .i64 kd, .string key, .string src, .int .i64 n] 93)
      have X := Box.new wr 93 #[.int .i64 kd, .string key, .string src, .int .i64 n]
      have g1 : (k : Int) < (d.length : Int) := by omega
      have g2 : (0 : Int) ≤ (k : Int) := by omega
      have pk : IntKind.i64.wrap ((k : Int) + 1) = (k : Int) + 1 := by simp only [IntKind.wrap_i64]; omega
      have HNX := hideP hnx
      have HT := hideP ht
      have HBA := hideP hba
      have nb1 : ¬ (9223372036854775807 < t.size + 1) := by omega
      clear hnx ht hba hchk k1 k2 x0
      rcases Nat.eq_zero_or_pos k with h0 | h0
      · have g3 : ¬ (0 : Int) < (k : Int) := by omega
        have HP := hideP (show t.data.toList = (if k = 0 then [] else tDk d k ++ [59]) by rw [if_pos h0, HT.out, h0, tDk_zero])
        have hps : t.size ≤ 50 * k + 1 := by omega
        clear h0
        rcases (show kd = 1 ∨ kd = 2 ∨ kd = 3 ∨ kd = 4 ∨ kd = 5 by omega) with rfl | rfl | rfl | rfl | rfl
        · clear hts nb1 HT
          go_wp2_with fail
          generalize t = p0 at HP hps ⊢
          generalize wr.alloc (.cells #[.int .i64 1, .string key, .string src, .int .i64 n] 93) = w2 at X HBA ⊢
          have Y := X.alloc (.cells #[.string ⟨#[61]⟩, .string ⟨#[43]⟩, .string ⟨#[60]⟩, .string ⟨#[63]⟩, .string ⟨#[60]⟩] 9)
          have c0 := X.cell 0 (v := .int .i64 1) rfl
          have c1 := X.cell 1 (v := .string key) rfl
          have e0 := Y.cell 0 (v := .int .i64 1) rfl
          have e1 := Y.cell 1 (v := .string key) rfl
          have nb2 : ¬ (9223372036854775807 < key.size + 1) := by omega
          have nb3 : ¬ (9223372036854775807 < p0.size + (key.size + 1)) := by omega
          go_wp2_with fail
          go_region
          have Yd := Y.drew
          have Bd := (HBA.out.alloc HBA.out.size (.cells #[.string ⟨#[61]⟩, .string ⟨#[43]⟩, .string ⟨#[60]⟩, .string ⟨#[63]⟩, .string ⟨#[60]⟩] 9)).drew
          have HA2 := hideP (show (p0 ++ (key ++ ⟨#[61]⟩)).data.toList = p0.data.toList ++ (key.data.toList ++ [61]) by rw [app_data, app_data])
          have hs2 : (p0 ++ (key ++ ⟨#[61]⟩)).size ≤ 50 * k + 8 := by rw [app_size, app_size]; show p0.size + (key.size + 1) ≤ _; omega
          clear c0 c1 e0 e1 nb2 nb3 X Y
          generalize (w2.alloc (.cells #[.string ⟨#[61]⟩, .string ⟨#[43]⟩, .string ⟨#[60]⟩, .string ⟨#[63]⟩, .string ⟨#[60]⟩] 9)).drew = w3 at Yd Bd ⊢
          generalize p0 ++ (key ++ ⟨#[61]⟩) = t2 at HA2 hs2 ⊢
          have e0 := Yd.cell 0 (v := .int .i64 1) rfl
          have e2 := Yd.cell 2 (v := .string src) rfl
          have e3 := Yd.cell 3 (v := .int .i64 n) rfl
          have HBd := hideP Bd
          clear Yd Bd
          have hv := k3 (by decide)
          have hvb : -1000000000 ≤ n ∧ n ≤ 1000000000 := by simpa [valB] using hv
          have HD := hideP (dec_any n (by omega) (by omega) w3)
          have hs4 := itoa_size (n := n) (by omega) (by omega)
          have HI := hideP (bs_data (itoa n))
          generalize bs (itoa n) = ti at HD hs4 HI
          have nb6 : ¬ (9223372036854775807 < t2.size + ti.size) := by omega
          clear hv hvb
          go_wp2_with fail
          refine HD.out.mono ?_
          rintro e w4 ⟨rfl, rfl⟩
          go_wp2_with fail
          go_roundw
          case rel =>
            refine ⟨k + 1, t2 ++ ti, by omega, by go_num, by first | rfl | simp, ?_, ?_, HBd.out⟩
            · rw [HNX.out, ← HP.out]
              simp [app_data, HA2.out, HI.out]
            · simp only [app_size]; show _ ≤ 50 * (k + 1); have e42 : (ByteArray.mk #[42]).size = 1 := rfl; omega
          case measure => simp [intOf]; omega
        · clear hts nb1 HT
          go_wp2_with fail
          generalize t = p0 at HP hps ⊢
          generalize wr.alloc (.cells #[.int .i64 2, .string key, .string src, .int .i64 n] 93) = w2 at X HBA ⊢
          have Y := X.alloc (.cells #[.string ⟨#[61]⟩, .string ⟨#[43]⟩, .string ⟨#[60]⟩, .string ⟨#[63]⟩, .string ⟨#[60]⟩] 9)
          have c0 := X.cell 0 (v := .int .i64 2) rfl
          have c1 := X.cell 1 (v := .string key) rfl
          have e0 := Y.cell 0 (v := .int .i64 2) rfl
          have e1 := Y.cell 1 (v := .string key) rfl
          have nb2 : ¬ (9223372036854775807 < key.size + 1) := by omega
          have nb3 : ¬ (9223372036854775807 < p0.size + (key.size + 1)) := by omega
          go_wp2_with fail
          go_region
          have Yd := Y.drew
          have Bd := (HBA.out.alloc HBA.out.size (.cells #[.string ⟨#[61]⟩, .string ⟨#[43]⟩, .string ⟨#[60]⟩, .string ⟨#[63]⟩, .string ⟨#[60]⟩] 9)).drew
          have HA2 := hideP (show (p0 ++ (key ++ ⟨#[43]⟩)).data.toList = p0.data.toList ++ (key.data.toList ++ [43]) by rw [app_data, app_data])
          have hs2 : (p0 ++ (key ++ ⟨#[43]⟩)).size ≤ 50 * k + 8 := by rw [app_size, app_size]; show p0.size + (key.size + 1) ≤ _; omega
          clear c0 c1 e0 e1 nb2 nb3 X Y
          generalize (w2.alloc (.cells #[.string ⟨#[61]⟩, .string ⟨#[43]⟩, .string ⟨#[60]⟩, .string ⟨#[63]⟩, .string ⟨#[60]⟩] 9)).drew = w3 at Yd Bd ⊢
          generalize p0 ++ (key ++ ⟨#[43]⟩) = t2 at HA2 hs2 ⊢
          have e0 := Yd.cell 0 (v := .int .i64 2) rfl
          have e2 := Yd.cell 2 (v := .string src) rfl
          have e3 := Yd.cell 3 (v := .int .i64 n) rfl
          have HBd := hideP Bd
          clear Yd Bd
          have hv := k3 (by decide)
          have hvb : -1000000000 ≤ n ∧ n ≤ 1000000000 := by simpa [valB] using hv
          have HD := hideP (dec_any n (by omega) (by omega) w3)
          have hs4 := itoa_size (n := n) (by omega) (by omega)
          have HI := hideP (bs_data (itoa n))
          generalize bs (itoa n) = ti at HD hs4 HI
          have nb6 : ¬ (9223372036854775807 < t2.size + ti.size) := by omega
          clear hv hvb
          go_wp2_with fail
          refine HD.out.mono ?_
          rintro e w4 ⟨rfl, rfl⟩
          go_wp2_with fail
          go_roundw
          case rel =>
            refine ⟨k + 1, t2 ++ ti, by omega, by go_num, by first | rfl | simp, ?_, ?_, HBd.out⟩
            · rw [HNX.out, ← HP.out]
              simp [app_data, HA2.out, HI.out]
            · simp only [app_size]; show _ ≤ 50 * (k + 1); have e42 : (ByteArray.mk #[42]).size = 1 := rfl; omega
          case measure => simp [intOf]; omega
        · clear hts nb1 HT
          go_wp2_with fail
          generalize t = p0 at HP hps ⊢
          generalize wr.alloc (.cells #[.int .i64 3, .string key, .string src, .int .i64 n] 93) = w2 at X HBA ⊢
          have Y := X.alloc (.cells #[.string ⟨#[61]⟩, .string ⟨#[43]⟩, .string ⟨#[60]⟩, .string ⟨#[63]⟩, .string ⟨#[60]⟩] 9)
          have c0 := X.cell 0 (v := .int .i64 3) rfl
          have c1 := X.cell 1 (v := .string key) rfl
          have e0 := Y.cell 0 (v := .int .i64 3) rfl
          have e1 := Y.cell 1 (v := .string key) rfl
          have nb2 : ¬ (9223372036854775807 < key.size + 1) := by omega
          have nb3 : ¬ (9223372036854775807 < p0.size + (key.size + 1)) := by omega
          go_wp2_with fail
          go_region
          have Yd := Y.drew
          have Bd := (HBA.out.alloc HBA.out.size (.cells #[.string ⟨#[61]⟩, .string ⟨#[43]⟩, .string ⟨#[60]⟩, .string ⟨#[63]⟩, .string ⟨#[60]⟩] 9)).drew
          have HA2 := hideP (show (p0 ++ (key ++ ⟨#[60]⟩)).data.toList = p0.data.toList ++ (key.data.toList ++ [60]) by rw [app_data, app_data])
          have hs2 : (p0 ++ (key ++ ⟨#[60]⟩)).size ≤ 50 * k + 8 := by rw [app_size, app_size]; show p0.size + (key.size + 1) ≤ _; omega
          clear c0 c1 e0 e1 nb2 nb3 X Y
          generalize (w2.alloc (.cells #[.string ⟨#[61]⟩, .string ⟨#[43]⟩, .string ⟨#[60]⟩, .string ⟨#[63]⟩, .string ⟨#[60]⟩] 9)).drew = w3 at Yd Bd ⊢
          generalize p0 ++ (key ++ ⟨#[60]⟩) = t2 at HA2 hs2 ⊢
          have e0 := Yd.cell 0 (v := .int .i64 3) rfl
          have e2 := Yd.cell 2 (v := .string src) rfl
          have e3 := Yd.cell 3 (v := .int .i64 n) rfl
          have HBd := hideP Bd
          clear Yd Bd
          have s3 := s2 (by first | decide | simp)
          have nb4 : ¬ (9223372036854775807 < t2.size + src.size) := by omega
          go_wp2_with fail
          go_roundw
          case rel =>
            refine ⟨k + 1, t2 ++ src, by omega, by go_num, by first | rfl | simp, ?_, ?_, HBd.out⟩
            · rw [HNX.out, ← HP.out]
              simp [app_data, HA2.out]
            · simp only [app_size]; show _ ≤ 50 * (k + 1); have e42 : (ByteArray.mk #[42]).size = 1 := rfl; omega
          case measure => simp [intOf]; omega
        · clear hts nb1 HT
          go_wp2_with fail
          generalize t = p0 at HP hps ⊢
          generalize wr.alloc (.cells #[.int .i64 4, .string key, .string src, .int .i64 n] 93) = w2 at X HBA ⊢
          have Y := X.alloc (.cells #[.string ⟨#[61]⟩, .string ⟨#[43]⟩, .string ⟨#[60]⟩, .string ⟨#[63]⟩, .string ⟨#[60]⟩] 9)
          have c0 := X.cell 0 (v := .int .i64 4) rfl
          have c1 := X.cell 1 (v := .string key) rfl
          have e0 := Y.cell 0 (v := .int .i64 4) rfl
          have e1 := Y.cell 1 (v := .string key) rfl
          have nb2 : ¬ (9223372036854775807 < key.size + 1) := by omega
          have nb3 : ¬ (9223372036854775807 < p0.size + (key.size + 1)) := by omega
          go_wp2_with fail
          go_region
          have Yd := Y.drew
          have Bd := (HBA.out.alloc HBA.out.size (.cells #[.string ⟨#[61]⟩, .string ⟨#[43]⟩, .string ⟨#[60]⟩, .string ⟨#[63]⟩, .string ⟨#[60]⟩] 9)).drew
          have HA2 := hideP (show (p0 ++ (key ++ ⟨#[63]⟩)).data.toList = p0.data.toList ++ (key.data.toList ++ [63]) by rw [app_data, app_data])
          have hs2 : (p0 ++ (key ++ ⟨#[63]⟩)).size ≤ 50 * k + 8 := by rw [app_size, app_size]; show p0.size + (key.size + 1) ≤ _; omega
          clear c0 c1 e0 e1 nb2 nb3 X Y
          generalize (w2.alloc (.cells #[.string ⟨#[61]⟩, .string ⟨#[43]⟩, .string ⟨#[60]⟩, .string ⟨#[63]⟩, .string ⟨#[60]⟩] 9)).drew = w3 at Yd Bd ⊢
          generalize p0 ++ (key ++ ⟨#[63]⟩) = t2 at HA2 hs2 ⊢
          have e0 := Yd.cell 0 (v := .int .i64 4) rfl
          have e2 := Yd.cell 2 (v := .string src) rfl
          have e3 := Yd.cell 3 (v := .int .i64 n) rfl
          have HBd := hideP Bd
          clear Yd Bd
          have hv := k3 (by decide)
          have hvb : -1000000000 ≤ n ∧ n ≤ 1000000000 := by simpa [valB] using hv
          have HD := hideP (dec_any n (by omega) (by omega) w3)
          have hs4 := itoa_size (n := n) (by omega) (by omega)
          have HI := hideP (bs_data (itoa n))
          generalize bs (itoa n) = ti at HD hs4 HI
          have nb6 : ¬ (9223372036854775807 < t2.size + ti.size) := by omega
          clear hv hvb
          go_wp2_with fail
          refine HD.out.mono ?_
          rintro e w4 ⟨rfl, rfl⟩
          go_wp2_with fail
          go_roundw
          case rel =>
            refine ⟨k + 1, t2 ++ ti, by omega, by go_num, by first | rfl | simp, ?_, ?_, HBd.out⟩
            · rw [HNX.out, ← HP.out]
              simp [app_data, HA2.out, HI.out]
            · simp only [app_size]; show _ ≤ 50 * (k + 1); have e42 : (ByteArray.mk #[42]).size = 1 := rfl; omega
          case measure => simp [intOf]; omega
        · clear hts nb1 HT
          go_wp2_with fail
          generalize t = p0 at HP hps ⊢
          generalize wr.alloc (.cells #[.int .i64 5, .string key, .string src, .int .i64 n] 93) = w2 at X HBA ⊢
          have Y := X.alloc (.cells #[.string ⟨#[61]⟩, .string ⟨#[43]⟩, .string ⟨#[60]⟩, .string ⟨#[63]⟩, .string ⟨#[60]⟩] 9)
          have c0 := X.cell 0 (v := .int .i64 5) rfl
          have c1 := X.cell 1 (v := .string key) rfl
          have e0 := Y.cell 0 (v := .int .i64 5) rfl
          have e1 := Y.cell 1 (v := .string key) rfl
          have nb2 : ¬ (9223372036854775807 < key.size + 1) := by omega
          have nb3 : ¬ (9223372036854775807 < p0.size + (key.size + 1)) := by omega
          go_wp2_with fail
          go_region
          have Yd := Y.drew
          have Bd := (HBA.out.alloc HBA.out.size (.cells #[.string ⟨#[61]⟩, .string ⟨#[43]⟩, .string ⟨#[60]⟩, .string ⟨#[63]⟩, .string ⟨#[60]⟩] 9)).drew
          have HA2 := hideP (show (p0 ++ (key ++ ⟨#[60]⟩)).data.toList = p0.data.toList ++ (key.data.toList ++ [60]) by rw [app_data, app_data])
          have hs2 : (p0 ++ (key ++ ⟨#[60]⟩)).size ≤ 50 * k + 8 := by rw [app_size, app_size]; show p0.size + (key.size + 1) ≤ _; omega
          clear c0 c1 e0 e1 nb2 nb3 X Y
          generalize (w2.alloc (.cells #[.string ⟨#[61]⟩, .string ⟨#[43]⟩, .string ⟨#[60]⟩, .string ⟨#[63]⟩, .string ⟨#[60]⟩] 9)).drew = w3 at Yd Bd ⊢
          generalize p0 ++ (key ++ ⟨#[60]⟩) = t2 at HA2 hs2 ⊢
          have e0 := Yd.cell 0 (v := .int .i64 5) rfl
          have e2 := Yd.cell 2 (v := .string src) rfl
          have e3 := Yd.cell 3 (v := .int .i64 n) rfl
          have HBd := hideP Bd
          clear Yd Bd
          have s3 := s2 (by first | decide | simp)
          have nb4 : ¬ (9223372036854775807 < t2.size + src.size) := by omega
          have nb5 : ¬ (9223372036854775807 < t2.size + src.size + 1) := by omega
          have hv := k3 (by decide)
          have hvb : -1000000000 ≤ n ∧ n ≤ 1000000000 := by simpa [valB] using hv
          have HD := hideP (dec_any n (by omega) (by omega) w3)
          have hs4 := itoa_size (n := n) (by omega) (by omega)
          have HI := hideP (bs_data (itoa n))
          generalize bs (itoa n) = ti at HD hs4 HI
          have nb6 : ¬ (9223372036854775807 < t2.size + src.size + 1 + ti.size) := by omega
          clear hv hvb
          go_wp2_with fail
          refine HD.out.mono ?_
          rintro e w4 ⟨rfl, rfl⟩
          go_wp2_with fail
          go_roundw
          case rel =>
            refine ⟨k + 1, t2 ++ src ++ ⟨#[42]⟩ ++ ti, by omega, by go_num, by first | rfl | simp, ?_, ?_, HBd.out⟩
            · rw [HNX.out, ← HP.out]
              simp [app_data, HA2.out, HI.out]
            · simp only [app_size]; show _ ≤ 50 * (k + 1); have e42 : (ByteArray.mk #[42]).size = 1 := rfl; omega
          case measure => simp [intOf]; omega
      · have g3 : (0 : Int) < (k : Int) := by omega
        have HP := hideP (show (t ++ ⟨#[59]⟩).data.toList = (if k = 0 then [] else tDk d k ++ [59]) by rw [if_neg (by omega), app_data, HT.out])
        have hps : (t ++ ⟨#[59]⟩).size ≤ 50 * k + 1 := by rw [app_size]; show t.size + 1 ≤ _; omega
        clear h0
        rcases (show kd = 1 ∨ kd = 2 ∨ kd = 3 ∨ kd = 4 ∨ kd = 5 by omega) with rfl | rfl | rfl | rfl | rfl
        · go_wp2_with fail
          generalize t ++ ⟨#[59]⟩ = p0 at HP hps ⊢
          generalize wr.alloc (.cells #[.int .i64 1, .string key, .string src, .int .i64 n] 93) = w2 at X HBA ⊢
          have Y := X.alloc (.cells #[.string ⟨#[61]⟩, .string ⟨#[43]⟩, .string ⟨#[60]⟩, .string ⟨#[63]⟩, .string ⟨#[60]⟩] 9)
          have c0 := X.cell 0 (v := .int .i64 1) rfl
          have c1 := X.cell 1 (v := .string key) rfl
          have e0 := Y.cell 0 (v := .int .i64 1) rfl
          have e1 := Y.cell 1 (v := .string key) rfl
          have nb2 : ¬ (9223372036854775807 < key.size + 1) := by omega
          have nb3 : ¬ (9223372036854775807 < p0.size + (key.size + 1)) := by omega
          go_wp2_with fail
          go_region
          have Yd := Y.drew
          have Bd := (HBA.out.alloc HBA.out.size (.cells #[.string ⟨#[61]⟩, .string ⟨#[43]⟩, .string ⟨#[60]⟩, .string ⟨#[63]⟩, .string ⟨#[60]⟩] 9)).drew
          have HA2 := hideP (show (p0 ++ (key ++ ⟨#[61]⟩)).data.toList = p0.data.toList ++ (key.data.toList ++ [61]) by rw [app_data, app_data])
          have hs2 : (p0 ++ (key ++ ⟨#[61]⟩)).size ≤ 50 * k + 8 := by rw [app_size, app_size]; show p0.size + (key.size + 1) ≤ _; omega
          clear c0 c1 e0 e1 nb2 nb3 X Y
          generalize (w2.alloc (.cells #[.string ⟨#[61]⟩, .string ⟨#[43]⟩, .string ⟨#[60]⟩, .string ⟨#[63]⟩, .string ⟨#[60]⟩] 9)).drew = w3 at Yd Bd ⊢
          generalize p0 ++ (key ++ ⟨#[61]⟩) = t2 at HA2 hs2 ⊢
          have e0 := Yd.cell 0 (v := .int .i64 1) rfl
          have e2 := Yd.cell 2 (v := .string src) rfl
          have e3 := Yd.cell 3 (v := .int .i64 n) rfl
          have HBd := hideP Bd
          clear Yd Bd
          have hv := k3 (by decide)
          have hvb : -1000000000 ≤ n ∧ n ≤ 1000000000 := by simpa [valB] using hv
          have HD := hideP (dec_any n (by omega) (by omega) w3)
          have hs4 := itoa_size (n := n) (by omega) (by omega)
          have HI := hideP (bs_data (itoa n))
          generalize bs (itoa n) = ti at HD hs4 HI
          have nb6 : ¬ (9223372036854775807 < t2.size + ti.size) := by omega
          clear hv hvb
          go_wp2_with fail
          refine HD.out.mono ?_
          rintro e w4 ⟨rfl, rfl⟩
          go_wp2_with fail
          go_roundw
          case rel =>
            refine ⟨k + 1, t2 ++ ti, by omega, by go_num, by first | rfl | simp, ?_, ?_, HBd.out⟩
            · rw [HNX.out, ← HP.out]
              simp [app_data, HA2.out, HI.out]
            · simp only [app_size]; show _ ≤ 50 * (k + 1); have e42 : (ByteArray.mk #[42]).size = 1 := rfl; omega
          case measure => simp [intOf]; omega
        · go_wp2_with fail
          generalize t ++ ⟨#[59]⟩ = p0 at HP hps ⊢
          generalize wr.alloc (.cells #[.int .i64 2, .string key, .string src, .int .i64 n] 93) = w2 at X HBA ⊢
          have Y := X.alloc (.cells #[.string ⟨#[61]⟩, .string ⟨#[43]⟩, .string ⟨#[60]⟩, .string ⟨#[63]⟩, .string ⟨#[60]⟩] 9)
          have c0 := X.cell 0 (v := .int .i64 2) rfl
          have c1 := X.cell 1 (v := .string key) rfl
          have e0 := Y.cell 0 (v := .int .i64 2) rfl
          have e1 := Y.cell 1 (v := .string key) rfl
          have nb2 : ¬ (9223372036854775807 < key.size + 1) := by omega
          have nb3 : ¬ (9223372036854775807 < p0.size + (key.size + 1)) := by omega
          go_wp2_with fail
          go_region
          have Yd := Y.drew
          have Bd := (HBA.out.alloc HBA.out.size (.cells #[.string ⟨#[61]⟩, .string ⟨#[43]⟩, .string ⟨#[60]⟩, .string ⟨#[63]⟩, .string ⟨#[60]⟩] 9)).drew
          have HA2 := hideP (show (p0 ++ (key ++ ⟨#[43]⟩)).data.toList = p0.data.toList ++ (key.data.toList ++ [43]) by rw [app_data, app_data])
          have hs2 : (p0 ++ (key ++ ⟨#[43]⟩)).size ≤ 50 * k + 8 := by rw [app_size, app_size]; show p0.size + (key.size + 1) ≤ _; omega
          clear c0 c1 e0 e1 nb2 nb3 X Y
          generalize (w2.alloc (.cells #[.string ⟨#[61]⟩, .string ⟨#[43]⟩, .string ⟨#[60]⟩, .string ⟨#[63]⟩, .string ⟨#[60]⟩] 9)).drew = w3 at Yd Bd ⊢
          generalize p0 ++ (key ++ ⟨#[43]⟩) = t2 at HA2 hs2 ⊢
          have e0 := Yd.cell 0 (v := .int .i64 2) rfl
          have e2 := Yd.cell 2 (v := .string src) rfl
          have e3 := Yd.cell 3 (v := .int .i64 n) rfl
          have HBd := hideP Bd
          clear Yd Bd
          have hv := k3 (by decide)
          have hvb : -1000000000 ≤ n ∧ n ≤ 1000000000 := by simpa [valB] using hv
          have HD := hideP (dec_any n (by omega) (by omega) w3)
          have hs4 := itoa_size (n := n) (by omega) (by omega)
          have HI := hideP (bs_data (itoa n))
          generalize bs (itoa n) = ti at HD hs4 HI
          have nb6 : ¬ (9223372036854775807 < t2.size + ti.size) := by omega
          clear hv hvb
          go_wp2_with fail
          refine HD.out.mono ?_
          rintro e w4 ⟨rfl, rfl⟩
          go_wp2_with fail
          go_roundw
          case rel =>
            refine ⟨k + 1, t2 ++ ti, by omega, by go_num, by first | rfl | simp, ?_, ?_, HBd.out⟩
            · rw [HNX.out, ← HP.out]
              simp [app_data, HA2.out, HI.out]
            · simp only [app_size]; show _ ≤ 50 * (k + 1); have e42 : (ByteArray.mk #[42]).size = 1 := rfl; omega
          case measure => simp [intOf]; omega
        · go_wp2_with fail
          generalize t ++ ⟨#[59]⟩ = p0 at HP hps ⊢
          generalize wr.alloc (.cells #[.int .i64 3, .string key, .string src, .int .i64 n] 93) = w2 at X HBA ⊢
          have Y := X.alloc (.cells #[.string ⟨#[61]⟩, .string ⟨#[43]⟩, .string ⟨#[60]⟩, .string ⟨#[63]⟩, .string ⟨#[60]⟩] 9)
          have c0 := X.cell 0 (v := .int .i64 3) rfl
          have c1 := X.cell 1 (v := .string key) rfl
          have e0 := Y.cell 0 (v := .int .i64 3) rfl
          have e1 := Y.cell 1 (v := .string key) rfl
          have nb2 : ¬ (9223372036854775807 < key.size + 1) := by omega
          have nb3 : ¬ (9223372036854775807 < p0.size + (key.size + 1)) := by omega
          go_wp2_with fail
          go_region
          have Yd := Y.drew
          have Bd := (HBA.out.alloc HBA.out.size (.cells #[.string ⟨#[61]⟩, .string ⟨#[43]⟩, .string ⟨#[60]⟩, .string ⟨#[63]⟩, .string ⟨#[60]⟩] 9)).drew
          have HA2 := hideP (show (p0 ++ (key ++ ⟨#[60]⟩)).data.toList = p0.data.toList ++ (key.data.toList ++ [60]) by rw [app_data, app_data])
          have hs2 : (p0 ++ (key ++ ⟨#[60]⟩)).size ≤ 50 * k + 8 := by rw [app_size, app_size]; show p0.size + (key.size + 1) ≤ _; omega
          clear c0 c1 e0 e1 nb2 nb3 X Y
          generalize (w2.alloc (.cells #[.string ⟨#[61]⟩, .string ⟨#[43]⟩, .string ⟨#[60]⟩, .string ⟨#[63]⟩, .string ⟨#[60]⟩] 9)).drew = w3 at Yd Bd ⊢
          generalize p0 ++ (key ++ ⟨#[60]⟩) = t2 at HA2 hs2 ⊢
          have e0 := Yd.cell 0 (v := .int .i64 3) rfl
          have e2 := Yd.cell 2 (v := .string src) rfl
          have e3 := Yd.cell 3 (v := .int .i64 n) rfl
          have HBd := hideP Bd
          clear Yd Bd
          have s3 := s2 (by first | decide | simp)
          have nb4 : ¬ (9223372036854775807 < t2.size + src.size) := by omega
          go_wp2_with fail
          go_roundw
          case rel =>
            refine ⟨k + 1, t2 ++ src, by omega, by go_num, by first | rfl | simp, ?_, ?_, HBd.out⟩
            · rw [HNX.out, ← HP.out]
              simp [app_data, HA2.out]
            · simp only [app_size]; show _ ≤ 50 * (k + 1); have e42 : (ByteArray.mk #[42]).size = 1 := rfl; omega
          case measure => simp [intOf]; omega
        · go_wp2_with fail
          generalize t ++ ⟨#[59]⟩ = p0 at HP hps ⊢
          generalize wr.alloc (.cells #[.int .i64 4, .string key, .string src, .int .i64 n] 93) = w2 at X HBA ⊢
          have Y := X.alloc (.cells #[.string ⟨#[61]⟩, .string ⟨#[43]⟩, .string ⟨#[60]⟩, .string ⟨#[63]⟩, .string ⟨#[60]⟩] 9)
          have c0 := X.cell 0 (v := .int .i64 4) rfl
          have c1 := X.cell 1 (v := .string key) rfl
          have e0 := Y.cell 0 (v := .int .i64 4) rfl
          have e1 := Y.cell 1 (v := .string key) rfl
          have nb2 : ¬ (9223372036854775807 < key.size + 1) := by omega
          have nb3 : ¬ (9223372036854775807 < p0.size + (key.size + 1)) := by omega
          go_wp2_with fail
          go_region
          have Yd := Y.drew
          have Bd := (HBA.out.alloc HBA.out.size (.cells #[.string ⟨#[61]⟩, .string ⟨#[43]⟩, .string ⟨#[60]⟩, .string ⟨#[63]⟩, .string ⟨#[60]⟩] 9)).drew
          have HA2 := hideP (show (p0 ++ (key ++ ⟨#[63]⟩)).data.toList = p0.data.toList ++ (key.data.toList ++ [63]) by rw [app_data, app_data])
          have hs2 : (p0 ++ (key ++ ⟨#[63]⟩)).size ≤ 50 * k + 8 := by rw [app_size, app_size]; show p0.size + (key.size + 1) ≤ _; omega
          clear c0 c1 e0 e1 nb2 nb3 X Y
          generalize (w2.alloc (.cells #[.string ⟨#[61]⟩, .string ⟨#[43]⟩, .string ⟨#[60]⟩, .string ⟨#[63]⟩, .string ⟨#[60]⟩] 9)).drew = w3 at Yd Bd ⊢
          generalize p0 ++ (key ++ ⟨#[63]⟩) = t2 at HA2 hs2 ⊢
          have e0 := Yd.cell 0 (v := .int .i64 4) rfl
          have e2 := Yd.cell 2 (v := .string src) rfl
          have e3 := Yd.cell 3 (v := .int .i64 n) rfl
          have HBd := hideP Bd
          clear Yd Bd
          have hv := k3 (by decide)
          have hvb : -1000000000 ≤ n ∧ n ≤ 1000000000 := by simpa [valB] using hv
          have HD := hideP (dec_any n (by omega) (by omega) w3)
          have hs4 := itoa_size (n := n) (by omega) (by omega)
          have HI := hideP (bs_data (itoa n))
          generalize bs (itoa n) = ti at HD hs4 HI
          have nb6 : ¬ (9223372036854775807 < t2.size + ti.size) := by omega
          clear hv hvb
          go_wp2_with fail
          refine HD.out.mono ?_
          rintro e w4 ⟨rfl, rfl⟩
          go_wp2_with fail
          go_roundw
          case rel =>
            refine ⟨k + 1, t2 ++ ti, by omega, by go_num, by first | rfl | simp, ?_, ?_, HBd.out⟩
            · rw [HNX.out, ← HP.out]
              simp [app_data, HA2.out, HI.out]
            · simp only [app_size]; show _ ≤ 50 * (k + 1); have e42 : (ByteArray.mk #[42]).size = 1 := rfl; omega
          case measure => simp [intOf]; omega
        · go_wp2_with fail
          generalize t ++ ⟨#[59]⟩ = p0 at HP hps ⊢
          generalize wr.alloc (.cells #[.int .i64 5, .string key, .string src, .int .i64 n] 93) = w2 at X HBA ⊢
          have Y := X.alloc (.cells #[.string ⟨#[61]⟩, .string ⟨#[43]⟩, .string ⟨#[60]⟩, .string ⟨#[63]⟩, .string ⟨#[60]⟩] 9)
          have c0 := X.cell 0 (v := .int .i64 5) rfl
          have c1 := X.cell 1 (v := .string key) rfl
          have e0 := Y.cell 0 (v := .int .i64 5) rfl
          have e1 := Y.cell 1 (v := .string key) rfl
          have nb2 : ¬ (9223372036854775807 < key.size + 1) := by omega
          have nb3 : ¬ (9223372036854775807 < p0.size + (key.size + 1)) := by omega
          go_wp2_with fail
          go_region
          have Yd := Y.drew
          have Bd := (HBA.out.alloc HBA.out.size (.cells #[.string ⟨#[61]⟩, .string ⟨#[43]⟩, .string ⟨#[60]⟩, .string ⟨#[63]⟩, .string ⟨#[60]⟩] 9)).drew
          have HA2 := hideP (show (p0 ++ (key ++ ⟨#[60]⟩)).data.toList = p0.data.toList ++ (key.data.toList ++ [60]) by rw [app_data, app_data])
          have hs2 : (p0 ++ (key ++ ⟨#[60]⟩)).size ≤ 50 * k + 8 := by rw [app_size, app_size]; show p0.size + (key.size + 1) ≤ _; omega
          clear c0 c1 e0 e1 nb2 nb3 X Y
          generalize (w2.alloc (.cells #[.string ⟨#[61]⟩, .string ⟨#[43]⟩, .string ⟨#[60]⟩, .string ⟨#[63]⟩, .string ⟨#[60]⟩] 9)).drew = w3 at Yd Bd ⊢
          generalize p0 ++ (key ++ ⟨#[60]⟩) = t2 at HA2 hs2 ⊢
          have e0 := Yd.cell 0 (v := .int .i64 5) rfl
          have e2 := Yd.cell 2 (v := .string src) rfl
          have e3 := Yd.cell 3 (v := .int .i64 n) rfl
          have HBd := hideP Bd
          clear Yd Bd
          have s3 := s2 (by first | decide | simp)
          have nb4 : ¬ (9223372036854775807 < t2.size + src.size) := by omega
          have nb5 : ¬ (9223372036854775807 < t2.size + src.size + 1) := by omega
          have hv := k3 (by decide)
          have hvb : -1000000000 ≤ n ∧ n ≤ 1000000000 := by simpa [valB] using hv
          have HD := hideP (dec_any n (by omega) (by omega) w3)
          have hs4 := itoa_size (n := n) (by omega) (by omega)
          have HI := hideP (bs_data (itoa n))
          generalize bs (itoa n) = ti at HD hs4 HI
          have nb6 : ¬ (9223372036854775807 < t2.size + src.size + 1 + ti.size) := by omega
          clear hv hvb
          go_wp2_with fail
          refine HD.out.mono ?_
          rintro e w4 ⟨rfl, rfl⟩
          go_wp2_with fail
          go_roundw
          case rel =>
            refine ⟨k + 1, t2 ++ src ++ ⟨#[42]⟩ ++ ti, by omega, by go_num, by first | rfl | simp, ?_, ?_, HBd.out⟩
            · rw [HNX.out, ← HP.out]
              simp [app_data, HA2.out, HI.out]
            · simp only [app_size]; show _ ≤ 50 * (k + 1); have e42 : (ByteArray.mk #[42]).size = 1 := rfl; omega
          case measure => simp [intOf]; omega
    · have hke : k = d.length := by omega
      subst hke
      have HV := hideP (show (bs (tD d)) = t from ba_ext (by rw [bs_data, ht, tDk_all]))
      have hb2 := HB.out.trans (hb.mono HB.out.size)
      clear ht hts
      go_wp2_with fail
      go_ret
      exact ⟨by rw [HV.out]; rfl, hb2⟩
end Go.Proofs.YtmepmiokpcddbabGreatDoor
