/-
  store.Get.
-/
import Derived.Test.YtoelnhnbefkfoaaPut
set_option linter.unusedVariables false
set_option linter.unusedSimpArgs false
namespace Go.Proofs.Ytoelnhnbefkfoaa
open Go.RowKit

set_option maxHeartbeats 400000 in
set_option maxRecDepth 100000 in
theorem get_bad (A : Option Addr) (c : Nat) (l : List Pr) (key : ByteArray) (w : World) (hA : SV w A c l) (hl : l.length < 4611686018427387904) (h : chk ByteArray.empty l ≠ 0) :
    Calls Try.prog 87 #[.slice A l.length c, .string key] w fun e w' => e = .returned (.tuple #[.int .i64 0, .int .i64 (chk ByteArray.empty l)]) ∧ Below w.heap.size w w' := by
  have hps := hA.ps
  clear hA
  generalize hC : chk ByteArray.empty l = C at h
  have HC := hideP hC
  clear hC
  have d : (C != 0) = true := by simp [h]
  clear h
  go_enter Try.func87, Try.ntmps87
  go_wp2_with fail
  refine (check_any A c l _ hps hl).mono ?_
  rintro e w' ⟨rfl, hb⟩
  rw [HC.out]
  go_wp2_with fail
  go_ret2
  exact ⟨rfl, hb⟩

set_option maxHeartbeats 400000 in
set_option maxRecDepth 100000 in
theorem get_key (A : Option Addr) (c : Nat) (l : List Pr) (key : ByteArray) (w : World) (hA : SV w A c l) (hl : l.length < 4611686018427387904) (h : Ok l) (hk : keyB key = false) :
    Calls Try.prog 87 #[.slice A l.length c, .string key] w fun e w' => e = .returned (.tuple #[.int .i64 0, .int .i64 3]) ∧ Below w.heap.size w w' := by
  have hps := hA.ps
  have HC := hideP (chk_ok.2 h)
  clear hA h
  go_enter Try.func87, Try.ntmps87
  go_wp2_with fail
  refine (check_any A c l _ hps hl).mono ?_
  rintro e w' ⟨rfl, hb⟩
  rw [HC.out]
  go_wp2_with fail
  refine (key_any _ _).mono ?_
  rintro e w' ⟨rfl, rfl⟩
  go_wp2_with fail
  go_ret2
  exact ⟨rfl, hb⟩

set_option maxHeartbeats 400000 in
set_option maxRecDepth 100000 in
theorem get_ok (A : Option Addr) (c : Nat) (l : List Pr) (key : ByteArray) (w : World) (hA : SV w A c l) (hl : l.length < 4611686018427387904) (h : Ok l) (hk : keyB key = true) :
    Calls Try.prog 87 #[.slice A l.length c, .string key] w fun e w' => e = .returned (.tuple #[.int .i64 (valOf l key), .int .i64 0]) ∧ Below w.heap.size w w' := by
  have hps := hA.ps
  have HC := hideP (chk_ok.2 h)
  have hq := posOf_at h.srt key
  have hv := valOf_at hq h.srt
  clear hA h
  generalize posOf l key = q at hq hv
  cases hf : fnd l key q
  · have HV := hideP (show valOf l key = 0 by rw [hv, dif_neg (by rw [hf]; simp)])
    clear hv
    go_enter Try.func87, Try.ntmps87
    go_wp2_with fail
    refine (check_any A c l _ hps hl).mono ?_
    rintro e w1 ⟨rfl, hb⟩
    rw [HC.out]
    go_wp2_with fail
    refine (key_any _ _).mono ?_
    rintro e w' ⟨rfl, rfl⟩
    go_wp2_with fail
    refine (find_any A c l key q _ ((hps.below hb).more hb.size) hl hq).mono ?_
    rintro e w2 ⟨rfl, hb2⟩
    go_wp2_with fail
    go_ret2
    exact ⟨by rw [HV.out]; rfl, hb.trans (hb2.mono hb.size)⟩
  · have hql := fnd_lt hf
    have HV := hideP (show valOf l key = (l[q]).2 by rw [hv, dif_pos hf])
    clear hv
    go_enter Try.func87, Try.ntmps87
    go_wp2_with fail
    refine (check_any A c l _ hps hl).mono ?_
    rintro e w1 ⟨rfl, hb⟩
    rw [HC.out]
    go_wp2_with fail
    refine (key_any _ _).mono ?_
    rintro e w' ⟨rfl, rfl⟩
    go_wp2_with fail
    refine (find_any A c l key q _ ((hps.below hb).more hb.size) hl hq).mono ?_
    rintro e w2 ⟨rfl, hb2⟩
    have hb3 := hb.trans (hb2.mono hb.size)
    obtain ⟨b, o, rfl, hbl, c1, c2⟩ := hps.below hb3 q _ (List.getElem?_eq_getElem hql)
    clear hps hq
    generalize l[q] = p at c1 c2 HV
    go_wp2_with fail
    go_ret2
    exact ⟨by rw [HV.out]; rfl, hb3⟩
end Go.Proofs.Ytoelnhnbefkfoaa
