/-
  rokeep.StoreScans: the law answers true.
-/
import Derived.Test.YtikklfoenjmdgaaPutsWalk
import Derived.Test.YtikklfoenjmdgaaJoin
set_option linter.unusedVariables false
set_option linter.unusedSimpArgs false
namespace Go.Proofs.Ytikklfoenjmdgaa
open Go.RowKit Go.WideMaps Go.Maps

theorem SV.lit2 (w : World) (k1 k2 : ByteArray) (n1 n2 : Int) (t : TypeId) : SV (w.alloc (.cells #[.string k1, .int .i64 n1, .string k2, .int .i64 n2] t)) (some ⟨w.heap.size, 0, none⟩) 2 [(k1, n1), (k2, n2)] :=
  ⟨fun i p hp => by
    match i with
    | 0 => simp at hp; subst hp; exact ⟨w.heap.size, 0, rfl, by simp, by simp, by simp⟩
    | 1 => simp at hp; subst hp; exact ⟨w.heap.size, 0, rfl, by simp, by simp, by simp⟩
    | i + 2 => simp at hp, by simp, by unfold maxLen; omega, (fun e => by cases e), (fun a ha => by injection ha with ha; exact ⟨_, _, ha.symm⟩)⟩
theorem SV.lit1 (w : World) (k1 : ByteArray) (n1 : Int) (t : TypeId) : SV (w.alloc (.cells #[.string k1, .int .i64 n1] t)) (some ⟨w.heap.size, 0, none⟩) 1 [(k1, n1)] :=
  ⟨PS.one w k1 n1 t, by simp, by unfold maxLen; omega, (fun e => by cases e), (fun a ha => by injection ha with ha; exact ⟨_, _, ha.symm⟩)⟩

/-- two valid stores with the same pairs are one -/
theorem Ok.same {l m : List Pr} (hl : Ok l) (hm : Ok m) (h : ∀ p, p ∈ l ↔ p ∈ m) : l = m := by
  refine hl.ext hm fun k => ?_
  by_cases hk : ∃ p ∈ l, p.1 = k
  · obtain ⟨p, hp, rfl⟩ := hk
    rw [valOf_mem hl.srt hp, valOf_mem hm.srt ((h p).1 hp)]
  · rw [valOf_none fun p hp e => hk ⟨p, hp, e⟩, valOf_none fun p hp e => hk ⟨p, (h p).2 hp, e⟩]
theorem Ok.sub {l m : List Pr} (hl : Ok l) (h : m.Sublist l) : Ok m := ⟨hl.srt.sublist h, fun p hp => hl.key p (h.subset hp), fun p hp => hl.val p (h.subset hp), fun p hp => hl.nz p (h.subset hp)⟩
theorem scanL_ok {l : List Pr} (hl : Ok l) (f t : ByteArray) : Ok (scanL l f t) := hl.sub (List.filter_sublist)
theorem scanL_len (l : List Pr) (f t : ByteArray) : (scanL l f t).length ≤ l.length := List.length_filter_le _ _
theorem ltB_empty (a : ByteArray) : ltB a ByteArray.empty = false := by rw [ltB_no]; exact List.not_lt_nil _
theorem scan_low (l : List Pr) {at_ : ByteArray} (h : at_.toList.isEmpty = false) : scanL l ByteArray.empty at_ = l.filter fun p => ltB p.1 at_ := by
  unfold scanL; simp [ltB_empty, h]
theorem scan_high (l : List Pr) (at_ : ByteArray) : scanL l at_ ByteArray.empty = l.filter fun p => !ltB p.1 at_ := by
  unfold scanL
  have : ByteArray.empty.toList.isEmpty = true := by rw [ByteArray.toList_eq]; rfl
  simp [this]
theorem scan_two {l : List Pr} (hl : Ok l) {at_ : ByteArray} (h : at_.toList.isEmpty = false) : scanL l ByteArray.empty at_ ++ scanL l at_ ByteArray.empty = l := by
  have hq := posOf_at hl.srt at_
  rw [scan_low l h, scan_high, filter_at' hq, filter_at hq, List.take_append_drop]
theorem scan_apart (l : List Pr) {at_ : ByteArray} (h : at_.toList.isEmpty = false) : Apart (scanL l ByteArray.empty at_) (scanL l at_ ByteArray.empty) := by
  intro p hp q hq e
  rw [scan_low l h] at hp
  rw [scan_high] at hq
  simp at hp hq
  rw [e, hq.2] at hp
  cases hp.2
theorem scan_none (l : List Pr) {at_ : ByteArray} (h : at_.toList.isEmpty = false) : scanL l at_ at_ = [] := by
  unfold scanL
  rw [List.filter_eq_nil_iff]
  intro p hp
  cases hc : ltB p.1 at_ <;> simp [h]
theorem lt_snoc (a k : List UInt8) : a < k ++ [0] ↔ a < k ∨ a = k := by
  induction k generalizing a with
  | nil =>
    cases a with
    | nil => simp
    | cons x r =>
      simp only [List.nil_append, List.cons_lt_cons_iff]
      constructor
      · rintro (h | ⟨_, h⟩)
        · exact absurd h (by simp [UInt8.lt_iff_toNat_lt])
        · exact absurd h (List.not_lt_nil _)
      · rintro (h | h)
        · exact absurd h (List.not_lt_nil _)
        · cases h
  | cons y k ih =>
    cases a with
    | nil => simp
    | cons x r =>
      simp only [List.cons_append, List.cons_lt_cons_iff, ih, List.cons.injEq]
      constructor
      · rintro (h | ⟨h, h2 | h2⟩)
        · exact .inl (.inl h)
        · exact .inl (.inr ⟨h, h2⟩)
        · exact .inr ⟨h, h2⟩
      · rintro ((h | ⟨h, h2⟩) | ⟨h, h2⟩)
        · exact .inl h
        · exact .inr ⟨h, .inl h2⟩
        · exact .inr ⟨h, .inr h2⟩
theorem ltB_snoc {a k k0 : ByteArray} (h : by8 k0 = by8 k ++ [0]) : ltB a k0 = true ↔ ltB a k = true ∨ a = k := by
  rw [ltB_iff, ltB_iff, h, lt_snoc]
  exact ⟨fun h => h.imp id by8_inj, fun h => h.imp id (fun e => by rw [e])⟩
theorem scan_one {l : List Pr} (hl : Ok l) {k k0 : ByteArray} (h : by8 k0 = by8 k ++ [0]) : scanL l k k0 = if valOf l k = 0 then [] else [(k, valOf l k)] := by
  have he : k0.toList.isEmpty = false := by rw [ByteArray.toList_eq]; show (by8 k0).isEmpty = false; rw [h]; simp
  have hok : Ok (if valOf l k = 0 then [] else [(k, valOf l k)]) := by
    by_cases h0 : valOf l k = 0
    · rw [if_pos h0]; exact Ok.nil
    · rw [if_neg h0]
      obtain ⟨p, hp, rfl⟩ := valOf_ne h0
      have hv := valOf_mem hl.srt hp
      refine ⟨by simp, fun q hq => ?_, fun q hq => ?_, fun q hq => ?_⟩ <;> simp at hq <;> subst hq
      · exact hl.key p hp
      · simp only [hv]; exact hl.val p hp
      · exact h0
  refine (scanL_ok hl k k0).same hok fun p => ?_
  unfold scanL
  simp only [List.mem_filter, he, Bool.false_or, Bool.and_eq_true, Bool.not_eq_true']
  constructor
  · rintro ⟨hp, h1, h2⟩
    rcases (ltB_snoc h).1 h2 with h3 | h3
    · rw [h1] at h3; cases h3
    · have hv := valOf_mem hl.srt hp
      rw [h3] at hv
      rw [hv, if_neg (hl.nz p hp)]
      simp [← h3]
  · intro hp
    by_cases h0 : valOf l k = 0
    · simp [h0] at hp
    · simp [h0] at hp
      subst hp
      obtain ⟨q, hq, he⟩ := valOf_ne h0
      have hv := valOf_mem hl.srt hq
      rw [he] at hv
      refine ⟨?_, ltB_irrefl _, (ltB_snoc h).2 (.inr rfl)⟩
      rw [hv, ← he]
      exact hq

set_option maxHeartbeats 2000000 in
set_option maxRecDepth 100000 in
theorem scans_any (A : Option Addr) (c : Nat) (zs : List Int) (at0 key : ByteArray) (w : World) (hA : IS w A zs) (hl : zs.length ≤ c) (hc : c ≤ 9223372036854775807) (hn : A = none → c = 0) :
    Calls Try.prog 4 #[.slice A zs.length c, .string at0, .string key] w fun e w' => e = .returned (.bool true) ∧ Below w.heap.size w w' := by
  have hka : keyB ⟨#[97]⟩ = true := by decide +kernel
  have hkb : keyB ⟨#[98]⟩ = true := by decide +kernel
  have hOK2 : Ok [(⟨#[97]⟩, 1), (⟨#[98]⟩, 2)] := chk_ok.1 (by decide +kernel)
  have hL2 : scanL [(⟨#[97]⟩, 1), (⟨#[98]⟩, 2)] ⟨#[98]⟩ ByteArray.empty = [(⟨#[98]⟩, 2)] := by decide +kernel
  have HL2 := hideP hL2
  clear hL2 hka hkb
  go_enter Try.func4, Try.ntmps4
  go_wp2_with fail
  refine (scan_ok _ 2 [(⟨#[97]⟩, 1), (⟨#[98]⟩, 2)] ⟨#[98]⟩ ByteArray.empty _ (SV.lit2 w ⟨#[97]⟩ ⟨#[98]⟩ 1 2 36) (by simp) hOK2).mono ?_
  rw [HL2.out]
  rintro e w1 ⟨A1, c1, rfl, _, hb0⟩
  have hb1 := ((Below.refl _ w).alloc (Nat.le_refl _) (.cells #[.string ⟨#[97]⟩, .int .i64 1, .string ⟨#[98]⟩, .int .i64 2] 36)).trans (hb0.mono (by simp))
  have hA1 := hA.below hb1
  clear hA hb0 hOK2 HL2
  go_wp2_with fail
  refine (pairs_any A c zs _ hA1 hl hc hn).mono ?_
  rintro e w2 ⟨As, cs, s, rfl, hs, hsm, hb2⟩
  have hb := hb1.trans (hb2.mono hb1.size)
  have hok := hsm.ok
  have hlen := hsm.len
  clear hb1 hb2 hA1 hn hsm
  cases hat : at0.toList.isEmpty
  · have hne : at0.toList.isEmpty = false := hat
    have h2 := scan_two hok hne
    have hap := scan_apart s hne
    have okx := scanL_ok hok ByteArray.empty (at0)
    have oky := scanL_ok hok (at0) ByteArray.empty
    have lx := scanL_len s ByteArray.empty (at0)
    have ly := scanL_len s (at0) ByteArray.empty
    have hno := hideP (scan_none s hne)
    have c1 := scan_ok As cs s ByteArray.empty (at0) w2 hs (by omega) hok
    have c2 := fun w3 h => scan_ok As cs s (at0) ByteArray.empty w3 h (by omega) hok
    generalize scanL s ByteArray.empty (at0) = x at h2 hap okx lx c1
    generalize scanL s (at0) ByteArray.empty = y at h2 hap oky ly c2
    have C1 := hideP c1
    have C2 := hideP c2
    have H2 := hideP h2
    have HAP := hideP hap
    clear c1 c2 h2 hap
    go_wp2_with fail
    refine C1.out.mono ?_
    rintro e w3 ⟨Ax, cx, rfl, hx, hb3⟩
    have hs3 := hs.below hb3
    have hbb := hb.trans (hb3.mono hb.size)
    clear hb hb3 hs C1
    go_wp2_with fail
    refine (C2.out w3 hs3).mono ?_
    rintro e w4 ⟨Ay, cy, rfl, hy, hb4⟩
    have hs4 := hs3.below hb4
    have hx4 := hx.below hb4
    have hbc := hbb.trans (hb4.mono hbb.size)
    clear hbb hb4 hs3 hx C2
    go_wp2_with fail
    refine (join_ok Ax Ay cx cy x y _ hx4 hy okx oky (by omega)).mono ?_
    rintro e w5 ⟨hj | ⟨Aj, cj, j, he, hj, hjj⟩, hb5⟩
    · exact absurd HAP.out hj.1
    have hjs : j = s := hjj.ok.same hok fun p => by rw [hjj.mem, ← List.mem_append, H2.out]
    subst hjs
    clear hjj
    rw [he]
    clear he
    have hs5 := hs4.below hb5
    have hx5 := hx4.below hb5
    have hy5 := hy.below hb5
    have hbd := hbc.trans (hb5.mono hbc.size)
    clear hbc hb5 hs4 hx4 hy
    go_wp2_with fail
    refine (scan_ok As cs j (at0) (at0) _ hs5 (by omega) hok).mono ?_
    rw [hno.out]
    rintro e w6 ⟨An, cn, rfl, _, hb6⟩
    have hs6 := hs5.below hb6
    have hx6 := hx5.below hb6
    have hy6 := hy5.below hb6
    have hj6 := hj.below hb6
    have hbe := hbd.trans (hb6.mono hbd.size)
    clear hbd hb6 hs5 hx5 hy5 hj
    go_wp2_with fail
    refine (equal_same _ _ _ _ j _ hj6.ps hs6.ps (by omega)).mono ?_
    rintro e w7 ⟨rfl, hb7⟩
    have hs7 := hs6.below hb7
    have hx7 := hx6.below hb7
    have hy7 := hy6.below hb7
    have hbf := hbe.trans (hb7.mono hbe.size)
    clear hbe hb7 hs6 hx6 hy6 hj6
    go_wp2_with fail
    with_reducible refine (concat2 _ _ ?_ _ _ _ _ _ _ x y rfl rfl hx7.ps hy7.ps ?_).mono ?_
    · rfl
    · omega
    rw [H2.out]
    rintro e w8 ⟨v, rfl, hown, hb8⟩
    obtain ⟨Ac, cc, hv, hc8⟩ := SV.of_own hown
    rw [hv]
    have hbg := hbf.trans (((Below.refl _ w7).alloc (Nat.le_refl _) _).trans (hb8.mono (by simp)) |>.mono hbf.size)
    have hs8 := (hs7.below ((Below.refl _ w7).alloc (Nat.le_refl _) _)).below hb8
    clear hbf hb8 hs7 hx7 hy7 hown hv
    go_wp2_with fail
    refine (equal_same _ _ _ _ j _ hc8.ps hs8.ps (by omega)).mono ?_
    rintro e w9 ⟨rfl, hb9⟩
    have hs9 := hs8.below hb9
    have hbh := hbg.trans (hb9.mono hbg.size)
    clear hbg hb9 hs8 hc8
    go_wp2_with fail
    refine (key_any _ _).mono ?_
    rintro e w' ⟨rfl, rfl⟩
    cases hkey : keyB key
    · go_wp2_with fail
      go_ret
      exact ⟨rfl, hbh⟩
    · have hks : key.size ≤ 6 := by simp [keyB] at hkey; exact hkey.1.2
      have h0 := scan_one hok (k := key) (k0 := key ++ ⟨#[0]⟩) (by simp [by8])
      have cg := fun w h => scan_ok As cs j key (key ++ ⟨#[0]⟩) w h (by omega) hok
      rw [h0] at cg
      clear h0
      by_cases hv : valOf j key = 0
      · rw [if_pos hv] at cg
        have CG := hideP cg
        have HV := hideP hv
        clear cg hv
        go_wp2_with fail
        refine (CG.out _ hs9).mono ?_
        rintro e w10 ⟨Ao, co, rfl, ho, hb10⟩
        have hs10 := hs9.below hb10
        have hbi := hbh.trans (hb10.mono hbh.size)
        clear hbh hb10 hs9 CG
        go_wp2_with fail
        refine (get_ok As cs j key _ hs10 (by omega) hok hkey).mono ?_
        rintro e w11 ⟨rfl, hb11⟩
        rw [HV.out]
        have hbj := hbi.trans (hb11.mono hbi.size)
        clear hbi hb11 hs10 ho
        go_wp2_with fail
        go_ret
        exact ⟨rfl, hbj⟩
      · rw [if_neg hv] at cg
        have CG := hideP cg
        have d0 : (valOf j key == 0) = false := by simp [hv]
        clear cg hv
        go_wp2_with fail
        refine (CG.out _ hs9).mono ?_
        rintro e w10 ⟨Ao, co, rfl, ho, hb10⟩
        have hs10 := hs9.below hb10
        have hbi := hbh.trans (hb10.mono hbh.size)
        clear hbh hb10 hs9 CG
        go_wp2_with fail
        refine (get_ok As cs j key _ hs10 (by omega) hok hkey).mono ?_
        rintro e w11 ⟨rfl, hb11⟩
        obtain ⟨bo, oo, rfl, _, q1, q2⟩ := (ho.below hb11).ps 0 _ rfl
        simp only [Nat.zero_mul, Nat.add_zero] at q1 q2
        have hbj := hbi.trans (hb11.mono hbi.size)
        clear hbi hb11 hs10 ho
        generalize valOf j key = V at q2 d0
        go_wp2_with fail
        go_ret
        exact ⟨rfl, hbj⟩
  · have hne : (⟨#[99]⟩ : ByteArray).toList.isEmpty = false := by decide +kernel
    have h2 := scan_two hok hne
    have hap := scan_apart s hne
    have okx := scanL_ok hok ByteArray.empty (⟨#[99]⟩)
    have oky := scanL_ok hok (⟨#[99]⟩) ByteArray.empty
    have lx := scanL_len s ByteArray.empty (⟨#[99]⟩)
    have ly := scanL_len s (⟨#[99]⟩) ByteArray.empty
    have hno := hideP (scan_none s hne)
    have c1 := scan_ok As cs s ByteArray.empty (⟨#[99]⟩) w2 hs (by omega) hok
    have c2 := fun w3 h => scan_ok As cs s (⟨#[99]⟩) ByteArray.empty w3 h (by omega) hok
    generalize scanL s ByteArray.empty (⟨#[99]⟩) = x at h2 hap okx lx c1
    generalize scanL s (⟨#[99]⟩) ByteArray.empty = y at h2 hap oky ly c2
    have C1 := hideP c1
    have C2 := hideP c2
    have H2 := hideP h2
    have HAP := hideP hap
    clear c1 c2 h2 hap
    go_wp2_with fail
    refine C1.out.mono ?_
    rintro e w3 ⟨Ax, cx, rfl, hx, hb3⟩
    have hs3 := hs.below hb3
    have hbb := hb.trans (hb3.mono hb.size)
    clear hb hb3 hs C1
    go_wp2_with fail
    refine (C2.out w3 hs3).mono ?_
    rintro e w4 ⟨Ay, cy, rfl, hy, hb4⟩
    have hs4 := hs3.below hb4
    have hx4 := hx.below hb4
    have hbc := hbb.trans (hb4.mono hbb.size)
    clear hbb hb4 hs3 hx C2
    go_wp2_with fail
    refine (join_ok Ax Ay cx cy x y _ hx4 hy okx oky (by omega)).mono ?_
    rintro e w5 ⟨hj | ⟨Aj, cj, j, he, hj, hjj⟩, hb5⟩
    · exact absurd HAP.out hj.1
    have hjs : j = s := hjj.ok.same hok fun p => by rw [hjj.mem, ← List.mem_append, H2.out]
    subst hjs
    clear hjj
    rw [he]
    clear he
    have hs5 := hs4.below hb5
    have hx5 := hx4.below hb5
    have hy5 := hy.below hb5
    have hbd := hbc.trans (hb5.mono hbc.size)
    clear hbc hb5 hs4 hx4 hy
    go_wp2_with fail
    refine (scan_ok As cs j (⟨#[99]⟩) (⟨#[99]⟩) _ hs5 (by omega) hok).mono ?_
    rw [hno.out]
    rintro e w6 ⟨An, cn, rfl, _, hb6⟩
    have hs6 := hs5.below hb6
    have hx6 := hx5.below hb6
    have hy6 := hy5.below hb6
    have hj6 := hj.below hb6
    have hbe := hbd.trans (hb6.mono hbd.size)
    clear hbd hb6 hs5 hx5 hy5 hj
    go_wp2_with fail
    refine (equal_same _ _ _ _ j _ hj6.ps hs6.ps (by omega)).mono ?_
    rintro e w7 ⟨rfl, hb7⟩
    have hs7 := hs6.below hb7
    have hx7 := hx6.below hb7
    have hy7 := hy6.below hb7
    have hbf := hbe.trans (hb7.mono hbe.size)
    clear hbe hb7 hs6 hx6 hy6 hj6
    go_wp2_with fail
    with_reducible refine (concat2 _ _ ?_ _ _ _ _ _ _ x y rfl rfl hx7.ps hy7.ps ?_).mono ?_
    · rfl
    · omega
    rw [H2.out]
    rintro e w8 ⟨v, rfl, hown, hb8⟩
    obtain ⟨Ac, cc, hv, hc8⟩ := SV.of_own hown
    rw [hv]
    have hbg := hbf.trans (((Below.refl _ w7).alloc (Nat.le_refl _) _).trans (hb8.mono (by simp)) |>.mono hbf.size)
    have hs8 := (hs7.below ((Below.refl _ w7).alloc (Nat.le_refl _) _)).below hb8
    clear hbf hb8 hs7 hx7 hy7 hown hv
    go_wp2_with fail
    refine (equal_same _ _ _ _ j _ hc8.ps hs8.ps (by omega)).mono ?_
    rintro e w9 ⟨rfl, hb9⟩
    have hs9 := hs8.below hb9
    have hbh := hbg.trans (hb9.mono hbg.size)
    clear hbg hb9 hs8 hc8
    go_wp2_with fail
    refine (key_any _ _).mono ?_
    rintro e w' ⟨rfl, rfl⟩
    cases hkey : keyB key
    · go_wp2_with fail
      go_ret
      exact ⟨rfl, hbh⟩
    · have hks : key.size ≤ 6 := by simp [keyB] at hkey; exact hkey.1.2
      have h0 := scan_one hok (k := key) (k0 := key ++ ⟨#[0]⟩) (by simp [by8])
      have cg := fun w h => scan_ok As cs j key (key ++ ⟨#[0]⟩) w h (by omega) hok
      rw [h0] at cg
      clear h0
      by_cases hv : valOf j key = 0
      · rw [if_pos hv] at cg
        have CG := hideP cg
        have HV := hideP hv
        clear cg hv
        go_wp2_with fail
        refine (CG.out _ hs9).mono ?_
        rintro e w10 ⟨Ao, co, rfl, ho, hb10⟩
        have hs10 := hs9.below hb10
        have hbi := hbh.trans (hb10.mono hbh.size)
        clear hbh hb10 hs9 CG
        go_wp2_with fail
        refine (get_ok As cs j key _ hs10 (by omega) hok hkey).mono ?_
        rintro e w11 ⟨rfl, hb11⟩
        rw [HV.out]
        have hbj := hbi.trans (hb11.mono hbi.size)
        clear hbi hb11 hs10 ho
        go_wp2_with fail
        go_ret
        exact ⟨rfl, hbj⟩
      · rw [if_neg hv] at cg
        have CG := hideP cg
        have d0 : (valOf j key == 0) = false := by simp [hv]
        clear cg hv
        go_wp2_with fail
        refine (CG.out _ hs9).mono ?_
        rintro e w10 ⟨Ao, co, rfl, ho, hb10⟩
        have hs10 := hs9.below hb10
        have hbi := hbh.trans (hb10.mono hbh.size)
        clear hbh hb10 hs9 CG
        go_wp2_with fail
        refine (get_ok As cs j key _ hs10 (by omega) hok hkey).mono ?_
        rintro e w11 ⟨rfl, hb11⟩
        obtain ⟨bo, oo, rfl, _, q1, q2⟩ := (ho.below hb11).ps 0 _ rfl
        simp only [Nat.zero_mul, Nat.add_zero] at q1 q2
        have hbj := hbi.trans (hb11.mono hbi.size)
        clear hbi hb11 hs10 ho
        generalize valOf j key = V at q2 d0
        go_wp2_with fail
        go_ret
        exact ⟨rfl, hbj⟩
end Go.Proofs.Ytikklfoenjmdgaa
