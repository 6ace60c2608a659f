/-
  rokeep.storeBegun and rokeep.StorePuts: the law answers true.
-/
import Derived.Test.YtikklfoenjmdgaaPairs
import Derived.Test.YtikklfoenjmdgaaScan
import Derived.Test.YtikklfoenjmdgaaEqual
set_option linter.unusedVariables false
set_option linter.unusedSimpArgs false
namespace Go.Proofs.Ytikklfoenjmdgaa
open Go.RowKit Go.WideMaps Go.Maps

/-- a store with one key set is handed back -/
def RetPut (w : World) (l : List Pr) (key : ByteArray) (n : Int) (e : Ending) (w' : World) : Prop :=
  ∃ A c l', e = .returned (.tuple #[.slice A l'.length c, .int .i64 0]) ∧ SV w' A c l' ∧ Ok l' ∧ (∀ k, valOf l' k = if k = key then n else valOf l k) ∧ l'.length ≤ l.length + 1 ∧ Below w.heap.size w w'
theorem putL_len (l : List Pr) (key : ByteArray) (n : Int) (q : Nat) : (putL l key n q).length ≤ l.length + 1 := by
  unfold putL
  by_cases h0 : n = 0 <;> by_cases hf : fnd l key q = true <;> simp [h0, hf] <;> omega
theorem put_st (A : Option Addr) (c : Nat) (l : List Pr) (key : ByteArray) (n : Int) (w : World) (hA : SV w A c l) (hl : Ok l) (hk : keyB key = true) (hn : valB n = true) (hsz : (l.length + 1) * 24 ≤ 140737488355328) :
    Calls Try.prog 10 #[.slice A l.length c, .string key, .int .i64 n] w (RetPut w l key n) := by
  have hq := posOf_at hl.srt key
  refine (put_ok A c l key n (posOf l key) w hA hl hk hn hq hsz).mono ?_
  rintro e w' ⟨A', c', rfl, hsv, hb⟩
  have h := putL_ok hl hq hk hn
  exact ⟨A', c', _, rfl, hsv, h.1, h.2, putL_len _ _ _ _, hb⟩

set_option maxHeartbeats 400000 in
set_option maxRecDepth 100000 in
theorem begun_any (w : World) : Calls Try.prog 6 #[] w fun e w' => e = .returned (.bool true) ∧ Below w.heap.size w w' := by
  have hk : keyB ⟨#[97]⟩ = true := by decide +kernel
  go_enter Try.func6, Try.ntmps6
  go_wp2_with fail
  refine (put_ok none 0 [] ⟨#[97]⟩ 5 0 w (SV.nil w) Ok.nil hk (by decide) (posOf_at (l := []) List.Pairwise.nil _) (by simp)).mono ?_
  have hL : putL [] ⟨#[97]⟩ 5 0 = [(⟨#[97]⟩, 5)] := by simp [putL]
  rw [hL]
  clear hL
  rintro e w' ⟨A', c', rfl, hsv, hb⟩
  go_wp2_with fail
  go_ret
  exact ⟨rfl, hb⟩

theorem zeros7 (w : World) (t : TypeId) (k : Nat) (h : k < 7) : (w.alloc (.cells #[.int .i64 0, .int .i64 0, .int .i64 0, .int .i64 0, .int .i64 0, .int .i64 0, .int .i64 0] t)).cell? ⟨w.heap.size, k, none⟩ = some (.int .i64 0) := by
  rcases (show k = 0 ∨ k = 1 ∨ k = 2 ∨ k = 3 ∨ k = 4 ∨ k = 5 ∨ k = 6 by omega) with rfl | rfl | rfl | rfl | rfl | rfl | rfl <;> simp

set_option maxHeartbeats 2000000 in
set_option maxRecDepth 100000 in
theorem puts_any (A : Option Addr) (c : Nat) (zs : List Int) (a b n m : Int) (w : World) (hA : IS w A zs) (hl : zs.length ≤ c) (hc : c ≤ 9223372036854775807) (hn : A = none → c = 0) :
    Calls Try.prog 3 #[.slice A zs.length c, .int .i64 a, .int .i64 b, .int .i64 n, .int .i64 m] w fun e w' => e = .returned (.bool true) ∧ Below w.heap.size w w' := by
  go_enter Try.func3, Try.ntmps3
  go_wp2_with fail
  refine (begun_any _).mono ?_
  rintro e w1 ⟨rfl, hb1⟩
  have hA1 := hA.below hb1
  clear hA
  go_wp2_with fail
  refine (pairs_any A c zs _ hA1 hl hc hn).mono ?_
  rintro e w2 ⟨As, cs, s, rfl, hs, hsm, hb2⟩
  have hb := hb1.trans (hb2.mono hb1.size)
  clear hb1 hb2 hA1 hn
  go_wp2_with fail
  refine (rkey_any a _).mono ?_
  rintro e w' ⟨rfl, rfl⟩
  go_wp2_with fail
  refine (rkey_any b _).mono ?_
  rintro e w' ⟨rfl, rfl⟩
  have hpk := keyN_ok (wi_lt a 8 (by omega))
  have hqk := keyN_ok (wi_lt b 8 (by omega))
  generalize keyN (wi a 8) = p at hpk
  generalize keyN (wi b 8) = q at hqk
  have hs3 := hs.below (((Below.refl _ w2).alloc (Nat.le_refl _) keysO).alloc (by simp) keysO)
  have hb3 := (hb.alloc hb.size keysO).alloc (by have := hb.size; simp; omega) keysO
  clear hs hb
  generalize (w2.alloc keysO).alloc keysO = w3 at hs3 hb3
  have hok := hsm.ok
  have hlen := hsm.len
  clear hsm
  go_wp2_with fail
  refine (within_any n 9 (by omega) (by omega) _).mono ?_
  rintro e w' ⟨rfl, rfl⟩
  have hn9 := wi_lt n 9 (by omega)
  generalize wi n 9 = n' at hn9
  go_wp2_with fail
  refine (within_any m 9 (by omega) (by omega) _).mono ?_
  rintro e w' ⟨rfl, rfl⟩
  have hm9 := wi_lt m 9 (by omega)
  generalize wi m 9 = m' at hm9
  go_wp2_with fail
  have hnv : valB ((n' : Int) - 4) = true := by simp [valB]; omega
  have hmv : valB ((m' : Int) - 4) = true := by simp [valB]; omega
  generalize ((n' : Int) - 4) = N at hnv ⊢
  generalize ((m' : Int) - 4) = M at hmv ⊢
  clear hn9 hm9
  refine (put_st As cs s p N _ hs3 hok hpk hnv (by omega)).mono ?_
  rintro e w4 ⟨Ax, cx, x, rfl, hx, hokx, hvx, hlx, hb4⟩
  have HVx := hideP hvx
  have hb5 := hb3.trans (hb4.mono hb3.size)
  have hs4 := hs3.below hb4
  clear hvx hb3 hb4 hs3
  go_wp2_with fail
  refine (put_st Ax cx x q M _ hx hokx hqk hmv (by omega)).mono ?_
  rintro e w5 ⟨Ay, cy, y, rfl, hy, hoky, hvy, hly, hb6⟩
  have HVy := hideP hvy
  have hb7 := hb5.trans (hb6.mono hb5.size)
  have hs5 := hs4.below hb6
  have hx5 := hx.below hb6
  clear hvy hb5 hb6 hs4 hx
  go_wp2_with fail
  refine (put_st As cs s q M _ hs5 hok hqk hmv (by omega)).mono ?_
  rintro e w6 ⟨Az, cz, z, rfl, hz, hokz, hvz, hlz, hb8⟩
  have HVz := hideP hvz
  have hb9 := hb7.trans (hb8.mono hb7.size)
  have hs6 := hs5.below hb8
  have hx6 := hx5.below hb8
  have hy6 := hy.below hb8
  clear hvz hb7 hb8 hs5 hx5 hy
  go_wp2_with fail
  refine (put_st Az cz z p N _ hz hokz hpk hnv (by omega)).mono ?_
  rintro e w7 ⟨Av, cv, v, rfl, hv, hokv, hvv, hlv, hb10⟩
  have HVv := hideP hvv
  have hb11 := hb9.trans (hb10.mono hb9.size)
  have hs7 := hs6.below hb10
  have hx7 := hx6.below hb10
  have hy7 := hy6.below hb10
  have hz7 := hz.below hb10
  clear hvv hb9 hb10 hs6 hx6 hy6 hz
  go_wp2_with fail
  refine (get_ok Ax cx x p _ hx7 (by omega) hokx hpk).mono ?_
  rintro e w8 ⟨rfl, hb12⟩
  rw [show valOf x p = N by rw [HVx.out, if_pos rfl]]
  have hb13 := hb11.trans (hb12.mono hb11.size)
  have hs8 := hs7.below hb12
  have hx8 := hx7.below hb12
  have hy8 := hy7.below hb12
  have hz8 := hz7.below hb12
  have hv8 := hv.below hb12
  clear hb11 hb12 hs7 hx7 hy7 hz7 hv
  go_wp2_with fail
  refine (get_ok Ax cx x q _ hx8 (by omega) hokx hqk).mono ?_
  rintro e w9 ⟨rfl, hb14⟩
  have hb15 := hb13.trans (hb14.mono hb13.size)
  have hs9 := hs8.below hb14
  have hy9 := hy8.below hb14
  have hz9 := hz8.below hb14
  have hv9 := hv8.below hb14
  clear hb13 hb14 hs8 hx8 hy8 hz8 hv8
  by_cases hpq : p = q
  · subst hpq
    have hyz : y = z := hoky.ext hokz fun k => by
      rw [HVy.out, HVz.out, HVx.out]; by_cases e : k = p <;> simp [e]
    subst hyz
    generalize valOf x p = U
    go_wp2_with fail
    refine (get_ok As cs s p _ hs9 (by omega) hok hqk).mono ?_
    rintro e w10 ⟨rfl, hb16⟩
    generalize valOf s p = U2
    have hb17 := hb15.trans (hb16.mono hb15.size)
    have hy10 := hy9.below hb16
    have ho10 := hz9.below hb16
    clear hb15 hb16 hs9 hy9 hz9 hv9 HVx HVy HVz HVv
    go_wp2_with fail
    go_loop [99] (fun i => ∃ k : Nat, k ≤ 7 ∧ i = .int .i64 k) (fun i => 7 - (intOf i).toNat)
    case atStart => exact ⟨0, Nat.zero_le _, rfl⟩
    case round =>
      obtain ⟨k, hk, rfl⟩ := hrel
      by_cases hlt : k < 7
      · have c1 := zeros7 w10 28 k hlt
        go_wp2_with fail
        go_round
        case rel => exact ⟨k + 1, by omega, by go_num⟩
        case measure => simp [intOf]; omega
      · have hbl := (Below.refl _ w10).alloc (Nat.le_refl _) (.cells #[.int .i64 0, .int .i64 0, .int .i64 0, .int .i64 0, .int .i64 0, .int .i64 0, .int .i64 0] 28)
        have hb18 := hb17.trans (hbl.mono hb17.size)
        have hy11 := hy10.below hbl
        have ho11 := ho10.below hbl
        clear hbl hb17 hy10 ho10
        generalize w10.alloc (.cells #[.int .i64 0, .int .i64 0, .int .i64 0, .int .i64 0, .int .i64 0, .int .i64 0, .int .i64 0] 28) = w11 at hb18 hy11 ho11
        go_wp2_with fail
        refine (equal_same _ _ _ _ y _ hy11.ps ho11.ps (by omega)).mono ?_
        rintro e w12 ⟨rfl, hb19⟩
        have hb20 := hb18.trans (hb19.mono hb18.size)
        have hy12 := hy11.below hb19
        clear hb18 hb19 hy11 ho11
        go_wp2_with fail
        refine (check_any _ _ y _ hy12.ps (by omega)).mono ?_
        rintro e w13 ⟨rfl, hb21⟩
        rw [chk_ok.2 hoky]
        have hb22 := hb20.trans (hb21.mono hb20.size)
        clear hb20 hb21 hy12
        go_wp2_with fail
        go_ret
        exact ⟨rfl, hb22⟩
  · have hyv : y = v := hoky.ext hokv fun k => by
      rw [HVy.out, HVv.out, HVx.out, HVz.out]
      by_cases e : k = p
      · subst e; simp [hpq]
      · have hqp : ¬ q = p := fun e => hpq e.symm
        by_cases e2 : k = q <;> simp [e, e2, hqp]
    subst hyv
    rw [show valOf x q = valOf s q by rw [HVx.out, if_neg (fun e => hpq e.symm)]]
    have d1 : (p.toList == q.toList) = false := by
      rw [beq_eq_false_iff_ne]; intro e; rw [ByteArray.toList_eq, ByteArray.toList_eq] at e; exact hpq (by8_inj e)
    clear hpq
    go_wp2_with fail
    refine (get_ok As cs s q _ hs9 (by omega) hok hqk).mono ?_
    rintro e w10 ⟨rfl, hb16⟩
    generalize valOf s q = U2
    have hb17 := hb15.trans (hb16.mono hb15.size)
    have hy10 := hy9.below hb16
    have ho10 := hv9.below hb16
    clear hb15 hb16 hs9 hy9 hz9 hv9 HVx HVy HVz HVv
    go_wp2_with fail
    go_loop [99] (fun i => ∃ k : Nat, k ≤ 7 ∧ i = .int .i64 k) (fun i => 7 - (intOf i).toNat)
    case atStart => exact ⟨0, Nat.zero_le _, rfl⟩
    case round =>
      obtain ⟨k, hk, rfl⟩ := hrel
      by_cases hlt : k < 7
      · have c1 := zeros7 w10 28 k hlt
        go_wp2_with fail
        go_round
        case rel => exact ⟨k + 1, by omega, by go_num⟩
        case measure => simp [intOf]; omega
      · have hbl := (Below.refl _ w10).alloc (Nat.le_refl _) (.cells #[.int .i64 0, .int .i64 0, .int .i64 0, .int .i64 0, .int .i64 0, .int .i64 0, .int .i64 0] 28)
        have hb18 := hb17.trans (hbl.mono hb17.size)
        have hy11 := hy10.below hbl
        have ho11 := ho10.below hbl
        clear hbl hb17 hy10 ho10
        generalize w10.alloc (.cells #[.int .i64 0, .int .i64 0, .int .i64 0, .int .i64 0, .int .i64 0, .int .i64 0, .int .i64 0] 28) = w11 at hb18 hy11 ho11
        go_wp2_with fail
        refine (equal_same _ _ _ _ y _ hy11.ps ho11.ps (by omega)).mono ?_
        rintro e w12 ⟨rfl, hb19⟩
        have hb20 := hb18.trans (hb19.mono hb18.size)
        have hy12 := hy11.below hb19
        clear hb18 hb19 hy11 ho11
        go_wp2_with fail
        refine (check_any _ _ y _ hy12.ps (by omega)).mono ?_
        rintro e w13 ⟨rfl, hb21⟩
        rw [chk_ok.2 hoky]
        have hb22 := hb20.trans (hb21.mono hb20.size)
        clear hb20 hb21 hy12
        go_wp2_with fail
        go_ret
        exact ⟨rfl, hb22⟩
end Go.Proofs.Ytikklfoenjmdgaa
