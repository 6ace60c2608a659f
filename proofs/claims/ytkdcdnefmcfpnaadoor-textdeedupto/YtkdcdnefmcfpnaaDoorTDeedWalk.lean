/-
  rokeep.TextDeed: the walk.
-/
import Derived.Test.YtkdcdnefmcfpnaaDoorTxBare
import Derived.Test.YtkdcdnefmcfpnaaDoorTxDeedW
import Derived.Deep.RegionHeld3
set_option linter.unusedVariables false
set_option linter.unusedSimpArgs false
namespace Go.Proofs.YtkdcdnefmcfpnaaDoor
open Go.RowKit
open Go.Lib hiding intOf

/-- the two transactions at hand -/
structure TdH (w0 : World) (g h : Nat) (D1 D2 : Option Addr) (k1 k2 : Nat) (a b : List Opr) (w : World) : Prop where
  b1 : Box w g 24 #[.slice D1 a.length k1]
  b2 : Box w h 24 #[.slice D2 b.length k2]
  o1 : OS w w.heap.size D1 a
  o2 : OS w w.heap.size D2 b
  gl : Gl w
  be : Below w0.heap.size w0 w
theorem TdH.below {w0 : World} {g h : Nat} {D1 D2 : Option Addr} {k1 k2 : Nat} {a b : List Opr} {w w' : World} (k : TdH w0 g h D1 D2 k1 k2 a b w) (hb : Below w.heap.size w w') : TdH w0 g h D1 D2 k1 k2 a b w' :=
  ⟨k.b1.below hb, k.b2.below hb, k.o1.go hb, k.o2.go hb, k.gl.below hb, k.be.trans (hb.mono k.be.size)⟩
theorem TdH.c {w0 : World} {g h : Nat} {D1 D2 : Option Addr} {k1 k2 : Nat} {a b : List Opr} {w : World} (k : TdH w0 g h D1 D2 k1 k2 a b w) : w.cell? ⟨g, 0, none⟩ = some (.slice D1 a.length k1) ∧ w.cell? ⟨h, 0, none⟩ = some (.slice D2 b.length k2) := ⟨k.b1.cell 0 rfl, k.b2.cell 0 rfl⟩
/-- a transaction that was read, in its box -/
structure Bx (w : World) (g : Nat) (D : Option Addr) (c : Nat) (d : List Opr) : Prop where
  x : Box w g 24 #[.slice D d.length c]
  o : OS w w.heap.size D d
theorem Bx.below {w w' : World} {g : Nat} {D : Option Addr} {c : Nat} {d : List Opr} (h : Bx w g D c d) (hb : Below w.heap.size w w') : Bx w' g D c d := ⟨h.x.below hb, h.o.go hb⟩
def lo1 : Opr := ⟨5, ⟨#[97]⟩, ⟨#[98]⟩, 3⟩
def lo2 : Opr := ⟨4, ⟨#[97]⟩, ⟨#[]⟩, -1⟩
def loC : Array Value := #[.int .i64 5, .string ⟨#[97]⟩, .string ⟨#[98]⟩, .int .i64 3, .int .i64 4, .string ⟨#[97]⟩, .string ⟨#[]⟩, .int .i64 (-1)]
theorem lit_os {w : World} {g : Nat} (h : Box w g 29 loC) : OS w w.heap.size (some ⟨g, 0, none⟩) [lo1, lo2] := fun i p hp => by
  refine ⟨g, 0, rfl, h.lt, ?_⟩
  rcases i with _ | _ | i
  · injection hp with hp
    subst hp
    exact ⟨h.cell 0 rfl, h.cell 1 rfl, h.cell 2 rfl, h.cell 3 rfl⟩
  · injection hp with hp
    subst hp
    exact ⟨h.cell 4 rfl, h.cell 5 rfl, h.cell 6 rfl, h.cell 7 rfl⟩
  · simp at hp
theorem litD_chk : chkD [lo1, lo2] = 0 := by decide +kernel
theorem litD_text : ddA [lo1, lo2] = ⟨#[97, 60, 98, 42, 51, 59, 97, 63, 45, 49]⟩ := by
  unfold ddA
  rw [if_pos litD_chk]
  have e3 : itoa (3 : Int) = [51] := by
    have := itoa_nonneg 3
    rw [decDigits_one (by decide)] at this
    exact this
  have e1 : itoa (-1 : Int) = [45, 49] := by
    have := itoa_neg 1 (by decide)
    rw [decDigits_one (by decide)] at this
    exact this
  refine ba_ext ?_
  show join [[97] ++ 60 :: ([98] ++ 42 :: itoa 3), [97] ++ 63 :: itoa (-1)] [59] = _
  rw [e3, e1]
  rfl
theorem read_bd {d : List Opr} (h : chkD d = 0) (hb : d.map bare = d) : ∀ o ∈ d, -9223372036854775808 ≤ o.n ∧ o.n ≤ 9223372036854775807 := fun o ho => by
  have h1 := chkO_zero.1 ((chkD_zero.1 h).2.2 o ho)
  by_cases h3 : o.kind = 3
  · obtain ⟨i, hi, he⟩ := List.mem_iff_getElem.1 ho
    have h4 : (d.map bare)[i]? = d[i]? := by rw [hb]
    rw [List.getElem?_map, List.getElem?_eq_getElem hi, he] at h4
    injection h4 with h4
    unfold bare at h4
    rw [if_pos h3] at h4
    have : o.n = 0 := by rw [← h4]
    omega
  · have := h1.2.2.2.2.1 h3
    simp [valB] at this
    omega
theorem rdD_bad {l : List UInt8} (h : (rdD l).1 ≠ 0) : (rdD l).2 = [] := by
  unfold rdD at h ⊢
  split
  · rfl
  · next d e =>
    rw [e] at h
    simp only at h ⊢
    split at h
    · exact absurd rfl h
    · next hc => rw [if_neg hc]
set_option maxHeartbeats 4000000 in
set_option maxRecDepth 100000 in
theorem tdeed_walk (D1 : Option Addr) (k1 : Nat) (a : List Opr) (D2 : Option Addr) (k2 : Nat) (b : List Opr) (s : ByteArray) (w : World) (ha : OS w w.heap.size D1 a) (na : ∀ o ∈ a, -9223372036854775808 ≤ o.n ∧ o.n ≤ 9223372036854775807) (hb : OS w w.heap.size D2 b) (nb : ∀ o ∈ b, -9223372036854775808 ≤ o.n ∧ o.n ≤ 9223372036854775807) (hs : s.size < 4294967281) (hg : Gl w) :
    Calls Tryd.prog 3 #[.agg #[.slice D1 a.length k1], .agg #[.slice D2 b.length k2], .string s] w fun e w' => e = .returned (.bool true) ∧ Below w.heap.size w w' := by
  have h0 := ((Below.refl w.heap.size w).alloc (Nat.le_refl _) (.cells #[.slice D1 a.length k1] 24)).alloc (by simp) (.cells #[.slice D2 b.length k2] 24)
  have hH : TdH w w.heap.size (w.heap.size + 1) D1 D2 k1 k2 a b ((w.alloc (.cells #[.slice D1 a.length k1] 24)).alloc (.cells #[.slice D2 b.length k2] 24)) := by
    refine ⟨(Box.new w _ _).alloc _, ?_, ha.go h0, hb.go h0, hg.below h0, h0⟩
    have := Box.new (w.alloc (.cells #[.slice D1 a.length k1] 24)) 24 #[.slice D2 b.length k2]
    rw [World.size_alloc] at this
    exact this
  have hsz : ((w.alloc (.cells #[.slice D1 a.length k1] 24)).alloc (.cells #[.slice D2 b.length k2] 24)).heap.size = w.heap.size + 1 + 1 := by simp
  clear h0 ha hb hg
  go_enter Tryd.func3, Tryd.ntmps3
  go_wp2_with fail
  generalize (w.alloc (.cells #[.slice D1 a.length k1] 24)).alloc (.cells #[.slice D2 b.length k2] 24) = w1 at hH hsz ⊢
  have al := (Below.refl w1.heap.size w1).alloc (Nat.le_refl _) (.cells loC 29)
  have xl := lit_os (Box.new w1 29 loC)
  rw [hsz] at xl
  replace hH := hH.below al
  have HT := hideP (deedT_any _ 2 [lo1, lo2] _ xl (by decide) hH.gl)
  rw [litD_text, litD_chk] at HT
  simp only [List.length_cons, List.length_nil, Nat.zero_add, Nat.reduceAdd] at HT
  unfold loC at HT hH
  clear al xl hsz
  generalize w.heap.size + 1 + 1 = gl at HT ⊢
  refine HT.out.mono ?_
  clear HT
  generalize w1.alloc _ = w2 at hH ⊢
  rintro e w3 ⟨rfl, hb3⟩
  replace hH := hH.below hb3
  clear hb3
  generalize hg1 : w.heap.size + 1 = g2 at hH ⊢
  generalize hg0 : w.heap.size = g1 at hH ⊢
  have HG0 := hideP hg0
  clear hg1 hg0
  obtain ⟨z1, z2⟩ := hH.c
  have H4 := hideP (deedT_any D1 k1 a w3 hH.o1 na hH.gl)
  go_wp2_with fail
  refine H4.out.mono ?_
  rintro e w4 ⟨rfl, hb4⟩
  replace hH := hH.below hb4
  clear hb4 z1 z2 H4
  obtain ⟨z1, z2⟩ := hH.c
  have H5 := hideP (deedT_any D2 k2 b w4 hH.o2 nb hH.gl)
  go_wp2_with fail
  refine H5.out.mono ?_
  rintro e w5 ⟨rfl, hb5⟩
  replace hH := hH.below hb5
  clear hb5 z1 z2 H5
  by_cases hca : chkD a = 0
  · have hva : ddA a = bs (tD a) := by unfold ddA; rw [if_pos hca]
    have hsa : (bs (tD a)).size ≤ 256 := body_len (x := ⟨false, a, [], []⟩) hca
    obtain ⟨_, ha8, _⟩ := chkD_zero.1 hca
    have H6 := hideP (rddeed_any (bs (tD a)) w5 hH.gl (by omega))
    rw [bs_data] at H6
    have HRD := hideP (rdD_tD hca)
    have HXQ := hideP (fun (hcb : chkD b = 0) => show ((bs (tD a)).toList == (ddA b).toList) = sameB (a.map bare) (b.map bare) by
      have hvb : ddA b = bs (tD b) := by unfold ddA; rw [if_pos hcb]
      rw [hvb, list_eq, list_eq, bs_data, bs_data]
      by_cases he : tD a = tD b
      · rw [sameB_true ((tD_iff hca hcb).1 he)]; simpa using he
      · rw [sameB_false (fun h => he ((tD_iff hca hcb).2 h))]; simpa using he)
    rw [hca, hva]
    generalize bs (tD a) = ta at H6 HXQ ⊢
    generalize ddA b = tb at HXQ ⊢
    clear hca hva hsa
    go_wp2_with fail
    refine H6.out.mono ?_
    rintro e w6 ⟨Dr, cr, dr, rfl, hdr, hoo, hb6⟩
    rw [HRD.out] at hdr ⊢
    simp only at hdr
    subst hdr
    replace hH := hH.below hb6
    clear hb6 H6 HRD
    have al := (Below.refl w6.heap.size w6).alloc (Nat.le_refl _) (.cells #[.slice Dr (a.map bare).length cr] 24)
    have hX : Bx (w6.alloc (.cells #[.slice Dr (a.map bare).length cr] 24)) w6.heap.size Dr cr (a.map bare) := ⟨Box.new _ _ _, (hoo.below al).os⟩
    replace hH := hH.below al
    clear al hoo
    have HB1 := hideP (fun x W (hx : x = Value.agg #[.slice D1 a.length k1]) (h : OS W W.heap.size D1 a) => show Calls Tryd.prog 8 #[x] W (RetBa W a) from hx ▸ bare_any D1 k1 a W h (by omega))
    have HS1 := hideP (fun Da ca Db cb W (h1 : OS W W.heap.size Da (a.map bare)) (h2 : OS W W.heap.size Db (a.map bare)) => show Calls Tryd.prog 7 #[.agg #[.slice Da (a.map bare).length ca], .agg #[.slice Db (a.map bare).length cb]] W fun e w' => e = .returned (.bool true) ∧ Below W.heap.size W w' from by
      have := samedeed_any Da Db ca cb _ _ W h1 h2 (by simp; omega)
      rwa [sameB_true rfl] at this)
    have HS2 := hideP (fun Da ca Db cb W (h1 : OS W W.heap.size Da (a.map bare)) (h2 : OS W W.heap.size Db (b.map bare)) => samedeed_any Da Db ca cb _ _ W h1 h2 (by simp; omega))
    unfold RetBa at HB1
    generalize hab : a.map bare = ab at hH hX HB1 HS1 HS2 HXQ ⊢
    clear hab
    go_wp2_with fail
    generalize hg6 : w6.heap.size = g6 at hX ⊢
    clear hg6
    generalize w6.alloc _ = w7 at hH hX ⊢
    replace hH := hH.below (Below.refl _ _).drew
    replace hX := hX.below (Below.refl _ _).drew
    go_region_held3 (fun w' => w'.cell? ⟨g6, 0, none⟩ = some (.slice Dr ab.length cr) ∧ w'.cell? ⟨g1, 0, none⟩ = some (.slice D1 a.length k1)) (exact And.intro (hX.x.cell 0 rfl) hH.c.1) (first
      | (go_at_call 8; refine (HB1.out _ _ (by with_reducible rfl) hH.o1).mono ?_; rintro e wn ⟨Db, cb, rfl, hob, hbn⟩; replace hH := hH.below hbn; replace hX := hX.below hbn; replace hob := hob.os; clear hbn)
      | (go_at_call 7; refine (HS1.out _ _ _ _ _ hX.o hob).mono ?_; rintro e wn ⟨rfl, hbn⟩; replace hH := hH.below hbn; replace hX := hX.below hbn; clear hbn))
    clear hX hob HS1
    by_cases hcb : chkD b = 0
    · have hxq := HXQ.out hcb
      obtain ⟨_, hb8, _⟩ := chkD_zero.1 hcb
      have HB2 := hideP (fun x W (hx : x = Value.agg #[.slice D2 b.length k2]) (h : OS W W.heap.size D2 b) => show Calls Tryd.prog 8 #[x] W (RetBa W b) from hx ▸ bare_any D2 k2 b W h (by omega))
      unfold RetBa at HB2
      rw [hcb]
      clear hcb HXQ
      generalize b.map bare = bb at HS2 HB2 hxq
      generalize sameB ab bb = q at HS2 hxq
      have hqq : (q != q) = false := by simp
      go_wp2_with fail
      replace hH := hH.below (Below.refl _ _).drew
      go_region_held3 (fun w' => w'.cell? ⟨g1, 0, none⟩ = some (.slice D1 a.length k1) ∧ w'.cell? ⟨g2, 0, none⟩ = some (.slice D2 b.length k2)) (exact hH.c) (first
        | (go_at_call 8; refine (HB1.out _ _ (by with_reducible rfl) hH.o1).mono ?_; rintro e wn ⟨E1, f1, rfl, ho1, hbn⟩; replace hH := hH.below hbn; (try replace ho2 := ho2.go hbn); replace ho1 := ho1.os; clear hbn)
        | (go_at_call 8; refine (HB2.out _ _ (by with_reducible rfl) hH.o2).mono ?_; rintro e wn ⟨E2, f2, rfl, ho2, hbn⟩; replace hH := hH.below hbn; (try replace ho1 := ho1.go hbn); replace ho2 := ho2.os; clear hbn)
        | (go_at_call 7; refine (HS2.out _ _ _ _ _ ho1 ho2).mono ?_; rintro e wn ⟨rfl, hbn⟩; replace hH := hH.below hbn; clear hbn))
      all_goals
        clear ho1 ho2 HB1 HB2 HS2
        have HT2 := hideP (rddeed_any s _ hH.gl hs)
        go_wp2_with fail
        refine HT2.out.mono ?_
        rintro e w7 ⟨Dn, cn, dn, rfl, hn, hoo, hb7⟩
        replace hH := hH.below hb7
        clear hb7 HT2
        have al := (Below.refl w7.heap.size w7).alloc (Nat.le_refl _) (.cells #[.slice Dn dn.length cn] 24)
        replace hH := hH.below al
        have hon := (hoo.below al).os
        have xn := Box.new w7 24 #[.slice Dn dn.length cn]
        have z0 := xn.cell 0 (v := .slice Dn dn.length cn) rfl
        clear xn hoo al
        by_cases hz : (rdD s.data.toList).1 = 0
        · obtain ⟨k1', k2', k3'⟩ := tD_rdD (l := s.data.toList) (d := dn) (by rw [← hz, ← hn])
          have HM2 := hideP (deedT_any Dn cn dn _ hon (read_bd k2' k3') hH.gl)
          have HV2 := hideP (show ddA dn = s by unfold ddA; rw [if_pos k2', k1', bs_of])
          rw [k2', HV2.out] at HM2
          have HC2 := hideP (fun W (h : OS W W.heap.size Dn dn) => dcheck_any Dn cn dn W h)
          rw [k2'] at HC2
          have xb := hH
          rw [hz]
          clear hz hn k1' k2' k3' HV2
          go_wp2_with fail
          refine HM2.out.mono ?_
          clear HM2
          generalize w7.alloc (.cells #[.slice Dn dn.length cn] 24) = w8 at hH hon z0 ⊢
          rintro e w9 ⟨rfl, hb9⟩
          have hon9 := hon.go hb9
          have z9 := (hb9.cell (p := ⟨w7.heap.size, 0, none⟩) (cell_lt z0)).trans z0
          replace hH := hH.below hb9
          have HC3 := hideP (HC2.out w9 hon9)
          clear HC2 z0 hon hb9 xb
          go_wp2_with fail
          refine HC3.out.mono ?_
          rintro e w10 ⟨rfl, hb10⟩
          have bF := (hH.below hb10).be
          go_wp2_with fail
          go_ret
          exact ⟨rfl, bF⟩
        · have hn2 : dn = [] := by rw [← hn]; exact rdD_bad hz
          subst hn2
          have e1 : ((rdD s.data.toList).1 != 0) = true := by simpa using hz
          have bF := hH.be
          clear hz hn
          generalize (rdD s.data.toList).1 = q at e1 ⊢
          go_wp2_with fail
          go_ret
          exact ⟨rfl, bF⟩
    · have d2 : (chkD b == 0) = false := by simpa using hcb
      clear hcb HXQ HS2 HB1
      generalize chkD b = qb at d2 ⊢
      go_wp2_with fail
      go_quiet (fail)
      first
      | replace hH := hH.below (below_drewN (Below.refl _ _) nq)
      | (rename_i nq; replace hH := hH.below (below_drewN (Below.refl _ _) nq))
      have HT2 := hideP (rddeed_any s _ hH.gl hs)
      go_wp2_with fail
      refine HT2.out.mono ?_
      rintro e w7 ⟨Dn, cn, dn, rfl, hn, hoo, hb7⟩
      replace hH := hH.below hb7
      clear hb7 HT2
      have al := (Below.refl w7.heap.size w7).alloc (Nat.le_refl _) (.cells #[.slice Dn dn.length cn] 24)
      replace hH := hH.below al
      have hon := (hoo.below al).os
      have xn := Box.new w7 24 #[.slice Dn dn.length cn]
      have z0 := xn.cell 0 (v := .slice Dn dn.length cn) rfl
      clear xn hoo al
      by_cases hz : (rdD s.data.toList).1 = 0
      · obtain ⟨k1', k2', k3'⟩ := tD_rdD (l := s.data.toList) (d := dn) (by rw [← hz, ← hn])
        have HM2 := hideP (deedT_any Dn cn dn _ hon (read_bd k2' k3') hH.gl)
        have HV2 := hideP (show ddA dn = s by unfold ddA; rw [if_pos k2', k1', bs_of])
        rw [k2', HV2.out] at HM2
        have HC2 := hideP (fun W (h : OS W W.heap.size Dn dn) => dcheck_any Dn cn dn W h)
        rw [k2'] at HC2
        have xb := hH
        rw [hz]
        clear hz hn k1' k2' k3' HV2
        go_wp2_with fail
        refine HM2.out.mono ?_
        clear HM2
        generalize w7.alloc (.cells #[.slice Dn dn.length cn] 24) = w8 at hH hon z0 ⊢
        rintro e w9 ⟨rfl, hb9⟩
        have hon9 := hon.go hb9
        have z9 := (hb9.cell (p := ⟨w7.heap.size, 0, none⟩) (cell_lt z0)).trans z0
        replace hH := hH.below hb9
        have HC3 := hideP (HC2.out w9 hon9)
        clear HC2 z0 hon hb9 xb
        go_wp2_with fail
        refine HC3.out.mono ?_
        rintro e w10 ⟨rfl, hb10⟩
        have bF := (hH.below hb10).be
        go_wp2_with fail
        go_ret
        exact ⟨rfl, bF⟩
      · have hn2 : dn = [] := by rw [← hn]; exact rdD_bad hz
        subst hn2
        have e1 : ((rdD s.data.toList).1 != 0) = true := by simpa using hz
        have bF := hH.be
        clear hz hn
        generalize (rdD s.data.toList).1 = q at e1 ⊢
        go_wp2_with fail
        go_ret
        exact ⟨rfl, bF⟩
  · have hva : ddA a = ByteArray.empty := by unfold ddA; rw [if_neg hca]
    have d1 : (chkD a == 0) = false := by simpa using hca
    rw [hva]
    clear hca hva
    generalize chkD a = qa at d1 ⊢
    generalize ddA b = tb at ⊢
    generalize chkD b = qb at ⊢
    have HT2 := hideP (rddeed_any s _ hH.gl hs)
    go_wp2_with fail
    refine HT2.out.mono ?_
    rintro e w7 ⟨Dn, cn, dn, rfl, hn, hoo, hb7⟩
    replace hH := hH.below hb7
    clear hb7 HT2
    have al := (Below.refl w7.heap.size w7).alloc (Nat.le_refl _) (.cells #[.slice Dn dn.length cn] 24)
    replace hH := hH.below al
    have hon := (hoo.below al).os
    have xn := Box.new w7 24 #[.slice Dn dn.length cn]
    have z0 := xn.cell 0 (v := .slice Dn dn.length cn) rfl
    clear xn hoo al
    by_cases hz : (rdD s.data.toList).1 = 0
    · obtain ⟨k1', k2', k3'⟩ := tD_rdD (l := s.data.toList) (d := dn) (by rw [← hz, ← hn])
      have HM2 := hideP (deedT_any Dn cn dn _ hon (read_bd k2' k3') hH.gl)
      have HV2 := hideP (show ddA dn = s by unfold ddA; rw [if_pos k2', k1', bs_of])
      rw [k2', HV2.out] at HM2
      have HC2 := hideP (fun W (h : OS W W.heap.size Dn dn) => dcheck_any Dn cn dn W h)
      rw [k2'] at HC2
      have xb := hH
      rw [hz]
      clear hz hn k1' k2' k3' HV2
      go_wp2_with fail
      refine HM2.out.mono ?_
      clear HM2
      generalize w7.alloc (.cells #[.slice Dn dn.length cn] 24) = w8 at hH hon z0 ⊢
      rintro e w9 ⟨rfl, hb9⟩
      have hon9 := hon.go hb9
      have z9 := (hb9.cell (p := ⟨w7.heap.size, 0, none⟩) (cell_lt z0)).trans z0
      replace hH := hH.below hb9
      have HC3 := hideP (HC2.out w9 hon9)
      clear HC2 z0 hon hb9 xb
      go_wp2_with fail
      refine HC3.out.mono ?_
      rintro e w10 ⟨rfl, hb10⟩
      have bF := (hH.below hb10).be
      go_wp2_with fail
      go_ret
      exact ⟨rfl, bF⟩
    · have hn2 : dn = [] := by rw [← hn]; exact rdD_bad hz
      subst hn2
      have e1 : ((rdD s.data.toList).1 != 0) = true := by simpa using hz
      have bF := hH.be
      clear hz hn
      generalize (rdD s.data.toList).1 = q at e1 ⊢
      go_wp2_with fail
      go_ret
      exact ⟨rfl, bF⟩
end Go.Proofs.YtkdcdnefmcfpnaaDoor
