/-
  roref.Num: what it answers.
-/
import Derived.Test.YtmepmiokpcddbabGreatDoorCa20
import Derived.Test.YtmepmiokpcddbabGreatDoorCa9
import Derived.Laws.IdiomStrings
set_option linter.unusedVariables false
set_option linter.unusedSimpArgs false
namespace Go.Proofs.YtmepmiokpcddbabGreatDoor
open Go.RowKit
open Go.Lib hiding intOf

theorem dgV_at (l : List UInt8) (k : Nat) (h : k < l.length) (u : Nat) : dgV u (l.drop k) = if 48 ≤ (l[k]'h).toNat ∧ (l[k]'h).toNat ≤ 57 then dgV (10 * u + ((l[k]'h).toNat - 48)) (l.drop (k + 1)) else none := by
  rw [List.drop_eq_getElem_cons h, dgV]
/-- what Num answers -/
def RetNu (w : World) (l : List UInt8) (e : Ending) (w' : World) : Prop :=
  (∃ z : Int, e = .returned (.tuple #[.int .i64 z, .bool (rdN l).isSome]) ∧ ∀ n, rdN l = some n → z = n) ∧ Below w.heap.size w w'
theorem retNu_none {w w' : World} {l : List UInt8} (h : rdN l = none) (hb : Below w.heap.size w w') : RetNu w l (.returned (.tuple #[.int .i64 0, .bool false])) w' := ⟨⟨0, by rw [h]; rfl, fun n e => by rw [h] at e; cases e⟩, hb⟩
set_option maxHeartbeats 2000000 in
theorem rnum_any (s : ByteArray) (w : World) :
    Calls Tryz.prog 82 #[.string s, .int .i64 11] w (RetNu w s.data.toList) := by
  have hsl : s.data.toList.length = s.size := by simp
  have HC := hideP (Any.strings_CutPrefix (P := Tryz.prog) (ρ := Tryz.cutpL_ren) Tryz.cutpL s ⟨#[45]⟩ w)
  have HP : hasPrefix s.data.toList (ByteArray.mk #[45]).data.toList = ngB s.data.toList := rfl
  have HT : (ByteArray.mk (trimPrefix s.data.toList (ByteArray.mk #[45]).data.toList).toArray) = bs (ngT s.data.toList) := rfl
  rw [HP, HT] at HC
  clear HP HT
  have hnc := ng_cases s.data.toList
  have kc := fun t => run_bytes_of_string (P := Tryz.prog) w 9 152 5 t Tryz.underlying9 Tryz.underlying152 Tryz.underlying5
  go_enter Tryz.func82, Tryz.ntmps82
  go_wp2_with fail
  refine HC.out.mono ?_
  rintro e w1 ⟨rfl, hw⟩
  rw [hw]
  clear hw HC
  obtain ⟨L, hL⟩ : ∃ L, s.data.toList = L := ⟨_, rfl⟩
  rw [hL] at hnc hsl ⊢
  generalize hT : ngT L = T at hnc ⊢
  generalize hN : ngB L = neg at hnc ⊢
  have hTL : T.length ≤ s.size := by rw [← hsl, ← hT]; exact ngT_len _
  have HL := hideP hL
  have HTe := hideP hT
  have HNe := hideP hN
  have HNC := hideP hnc
  clear hnc hL hN hT
  go_wp2_with fail
  rw [bs_size]
  generalize grownCap w T.length 0 5 = C
  have hcell : ∀ k (h : k < T.length), ((w.alloc (.cells (bytesRow (bs T) C) 5 ((bytesRow (bs T) C).size, (bytesRow (bs T) C).size + 1))).drew).cell? ⟨w.heap.size, k, none⟩ = some (.int .u8 ((T[k]'h).toNat : Int)) := by
    intro k h
    have h1 := World.cell?_alloc_mark w (bytesRow (bs T) C) 5 ((bytesRow (bs T) C).size, (bytesRow (bs T) C).size + 1) k
    rw [bytesRow_at (bs T) _ k (by simpa [bs] using h)] at h1
    exact h1
  have hb := ((Below.refl w.heap.size w).alloc (Nat.le_refl _) (.cells (bytesRow (bs T) C) 5 ((bytesRow (bs T) C).size, (bytesRow (bs T) C).size + 1))).drew
  generalize (w.alloc (.cells (bytesRow (bs T) C) 5 ((bytesRow (bs T) C).size, (bytesRow (bs T) C).size + 1))).drew = w2 at hcell hb ⊢
  have HB := hideP hb
  have HCE := hideP hcell
  clear hb hcell kc
  go_loop [8, 19] (fun a i => ∃ k u : Nat, k ≤ T.length ∧ (k = 0 ∨ s.size ≤ 11) ∧ i = .int .i64 k ∧ a = .int .i64 u ∧ dgV 0 (T.take k) = some u ∧ dgV u (T.drop k) = dgV 0 T) (fun _ i => T.length - (intOf i).toNat)
  case atStart => exact ⟨0, 0, Nat.zero_le _, .inl rfl, rfl, rfl, rfl, rfl⟩
  case round =>
    obtain ⟨k, u, hk, hko, rfl, rfl, hu, hd⟩ := hrel
    have hub : u < 100000000000 := by
      have h1 := dgV_lt _ _ _ hu
      rw [List.length_take] at h1
      rcases hko with h2 | h2
      · subst h2; simp at h1; omega
      · have h3 : 10 ^ (min k T.length) ≤ 10 ^ 11 := Nat.pow_le_pow_right (by decide) (by omega)
        omega
    rcases Nat.lt_or_ge k T.length with hlt | hge
    · have hc := HCE.out k hlt
      have g1 : (k : Int) < (T.length : Int) := by omega
      have g0 : (0 : Int) ≤ (k : Int) := by omega
      have hdk := dgV_at T k hlt u
      have hB := (T[k]'hlt).toNat_lt
      have htk : dgV 0 (T.take (k + 1)) = if 48 ≤ (T[k]'hlt).toNat ∧ (T[k]'hlt).toNat ≤ 57 then some (10 * u + ((T[k]'hlt).toNat - 48)) else none := by
        rw [List.take_succ_eq_append_getElem hlt, dgV_app, hu]
        simp only [Option.bind_some, dgV]
      generalize (T[k]'hlt).toNat = b at hc hdk hB htk
      have hK := hideP hko
      have hU := hideP hu
      have hD := hideP hd
      have hDK := hideP hdk
      have hTK := hideP htk
      clear hko hu hd hdk htk
      rcases Nat.lt_or_ge b 48 with h48 | h48
      · have g2 : (b : Int) < 48 := by omega
        have HR := hideP (show rdN L = none by
          refine rdN_none_of ?_
          rw [HTe.out, ← hD.out, hDK.out, if_neg (by omega)])
        go_wp2_with fail
        go_ret2
        rw [HL.out]
        exact retNu_none HR.out HB.out
      · have g2 : ¬ (b : Int) < 48 := by omega
        rcases Nat.lt_or_ge 57 b with h57 | h57
        · have g3 : (57 : Int) < (b : Int) := by omega
          have HR := hideP (show rdN L = none by
            refine rdN_none_of ?_
            rw [HTe.out, ← hD.out, hDK.out, if_neg (by omega)])
          go_wp2_with fail
          go_ret2
          rw [HL.out]
          exact retNu_none HR.out HB.out
        · have g3 : ¬ (57 : Int) < (b : Int) := by omega
          rcases Nat.lt_or_ge 11 s.size with h11 | h11
          · have g4 : (11 : Int) < (s.size : Int) := by omega
            have HR := hideP (show rdN L = none from rdN_long (by omega))
            go_wp2_with fail
            go_ret2
            rw [HL.out]
            exact retNu_none HR.out HB.out
          · have g4 : ¬ (11 : Int) < (s.size : Int) := by omega
            have p1 : IntKind.i64.wrap (10 * (u : Int)) = 10 * (u : Int) := by simp only [IntKind.wrap_i64]; omega
            have p2 : IntKind.u8.wrap ((b : Int) - 48) = (b : Int) - 48 := by unfold IntKind.wrap; simp [IntKind.signed, IntKind.bits]; omega
            have p3 : IntKind.i64.wrap ((b : Int) - 48) = (b : Int) - 48 := by simp only [IntKind.wrap_i64]; omega
            have p4 : IntKind.i64.wrap (10 * (u : Int) + ((b : Int) - 48)) = 10 * (u : Int) + ((b : Int) - 48) := by simp only [IntKind.wrap_i64]; omega
            have p5 : IntKind.i64.wrap ((k : Int) + 1) = (k : Int) + 1 := by simp only [IntKind.wrap_i64]; omega
            go_wp2_with fail
            go_round
            case rel => exact ⟨k + 1, 10 * u + (b - 48), by omega, .inr h11, by first | rfl | go_num | simp, by first | rfl | (congr 1; omega), by rw [hTK.out, if_pos ⟨h48, h57⟩], by rw [← hD.out, hDK.out, if_pos ⟨h48, h57⟩]⟩
            case measure => simp [intOf]; omega
    · obtain rfl : k = T.length := by omega
      have hdT : dgV 0 T = some u := by rw [← hd]; simp [dgV]
      have hs11 : s.size ≤ 11 := by
        rcases hko with h2 | h2
        · have : L.length ≤ T.length + 1 := by
            rcases HNC.out with ⟨_, e⟩ | ⟨_, e⟩
            · rw [e]; simp
            · rw [e]; omega
          omega
        · exact h2
      have HV := hideP (show (itoa (sgV neg u) = L → rdN L = some (sgV neg u)) ∧ (itoa (sgV neg u) ≠ L → rdN L = none) by
        have h := rdN_dg (l := L) (u := u) (by rw [HTe.out]; exact hdT) (by omega)
        rw [HNe.out] at h
        exact ⟨h.1, h.2.1⟩)
      have g1 : ¬ ((T.length : Nat) : Int) < (T.length : Int) := by omega
      clear hko hu hd hdT
      cases neg
      · have HD := hideP (dec_any (u : Int) (by omega) (by omega) w2)
        go_wp2_with fail
        refine HD.out.mono ?_
        rintro e w3 ⟨rfl, rfl⟩
        by_cases he : itoa ((u : Int)) = L
        · have d1 : ((bs (itoa ((u : Int)))).toList == s.toList) = true := by rw [list_eq, list_eq, bs_data, he, HL.out]; simp
          have HR := hideP (show rdN L = some ((u : Int)) from HV.out.1 he)
          clear he
          go_wp2_with fail
          go_ret2
          rw [HL.out]
          exact ⟨⟨(u : Int), by rw [HR.out]; rfl, fun n e => by rw [HR.out] at e; injection e⟩, HB.out⟩
        · have d1 : ((bs (itoa ((u : Int)))).toList == s.toList) = false := by rw [list_eq, list_eq, bs_data, HL.out]; simpa using he
          have HR := hideP (show rdN L = none from HV.out.2 he)
          clear he
          go_wp2_with fail
          go_ret2
          rw [HL.out]
          exact ⟨⟨(u : Int), by rw [HR.out]; rfl, fun n e => by rw [HR.out] at e; cases e⟩, HB.out⟩
      · have HD := hideP (dec_any (-(u : Int)) (by omega) (by omega) w2)
        have p1 : IntKind.i64.wrap (-(u : Int)) = -(u : Int) := by simp only [IntKind.wrap_i64]; omega
        go_wp2_with fail
        refine HD.out.mono ?_
        rintro e w3 ⟨rfl, rfl⟩
        by_cases he : itoa (-(u : Int)) = L
        · have d1 : ((bs (itoa (-(u : Int)))).toList == s.toList) = true := by rw [list_eq, list_eq, bs_data, he, HL.out]; simp
          have HR := hideP (show rdN L = some (-(u : Int)) from HV.out.1 he)
          clear he
          go_wp2_with fail
          go_ret2
          rw [HL.out]
          exact ⟨⟨-(u : Int), by rw [HR.out]; rfl, fun n e => by rw [HR.out] at e; injection e⟩, HB.out⟩
        · have d1 : ((bs (itoa (-(u : Int)))).toList == s.toList) = false := by rw [list_eq, list_eq, bs_data, HL.out]; simpa using he
          have HR := hideP (show rdN L = none from HV.out.2 he)
          clear he
          go_wp2_with fail
          go_ret2
          rw [HL.out]
          exact ⟨⟨-(u : Int), by rw [HR.out]; rfl, fun n e => by rw [HR.out] at e; cases e⟩, HB.out⟩
end Go.Proofs.YtmepmiokpcddbabGreatDoor
