/-
  rolaw.StoreJoins: the law answers true.
-/
import Derived.Test.YtikklfoenjmdgaaDoorRef
import Derived.Test.YtikklfoenjmdgaaDoorErrs
import Derived.Test.YtikklfoenjmdgaaDoorCount
import Derived.Test.YtikklfoenjmdgaaDoorLits
import Derived.Test.YtikklfoenjmdgaaDoorEqual
set_option linter.unusedVariables false
set_option linter.unusedSimpArgs false
namespace Go.Proofs.YtikklfoenjmdgaaDoor
open Go.RowKit Go.WideMaps Go.Maps

/-- what the law's own join has: of two stores, as far as it has come -/
def JMap (a b : List Pr) (k : Nat) (want : Int) (D : DataW Unit) : Prop :=
  (want = 0 ∧ Apart a (b.take k) ∧ ∀ j, mv D j = if valOf (b.take k) j = 0 then valOf a j else valOf (b.take k) j) ∨ (want = 5 ∧ ¬ Apart a b)
theorem apart_val {a : List Pr} {p : Pr} (ha : Ok a) (h : valOf a p.1 = 0) : ∀ q ∈ a, q.1 ≠ p.1 := fun q hq e => by
  have := valOf_mem ha.srt hq
  rw [e, h] at this
  exact ha.nz q hq this.symm
theorem JMap.done {a b : List Pr} {D : DataW Unit} {l m : List Pr} (ha : Ok a) (hb : Ok b) (hD : ∀ j, mv D j = if valOf b j = 0 then valOf a j else valOf b j) (hj : Joined a b l) (hm : Lists D m) : m = l := by
  have hv : ∀ j, valOf l j = mv D j := fun j => by
    rw [hD]
    by_cases h0 : valOf b j = 0
    · rw [if_pos h0]
      by_cases h1 : ∃ p ∈ a, p.1 = j
      · obtain ⟨p, hp, rfl⟩ := h1
        rw [valOf_mem ha.srt hp, valOf_mem hj.ok.srt ((hj.mem p).2 (.inl hp))]
      · rw [valOf_none fun p hp e => h1 ⟨p, hp, e⟩]
        refine valOf_none fun p hp e => ?_
        rcases (hj.mem p).1 hp with hp | hp
        · exact h1 ⟨p, hp, e⟩
        · have := valOf_mem hb.srt hp
          rw [e, h0] at this
          exact hb.nz p hp this.symm
    · rw [if_neg h0]
      obtain ⟨p, hp, rfl⟩ := valOf_ne h0
      rw [valOf_mem hb.srt hp, valOf_mem hj.ok.srt ((hj.mem p).2 (.inr hp))]
  have hk : ∀ p ∈ m, p ∈ l := fun p hp => by
    have h1 := hm.val p.1
    rw [valOf_mem hm.srt hp, ← hv] at h1
    have h2 : valOf l p.1 ≠ 0 := by rw [← h1]; exact hm.nz p hp
    obtain ⟨q, hq, e⟩ := valOf_ne h2
    have h3 := valOf_mem hj.ok.srt hq
    rw [e, ← h1] at h3
    have : q = p := Prod.ext e h3.symm
    rw [← this]; exact hq
  exact Ok.ext ⟨hm.srt, fun p hp => hj.ok.key p (hk p hp), fun p hp => hj.ok.val p (hk p hp), hm.nz⟩ hj.ok fun j => by rw [hm.val, hv]

set_option maxHeartbeats 2000000 in
set_option maxRecDepth 100000 in
/-- the part that both ways through the law begin with -/
theorem joins_begin (w : World) (x : List Pr) (Ax : Option Addr) (cx : Nat) (h : Joined [(⟨#[98]⟩, 1)] [(⟨#[97]⟩, 2)] x) : x = [(⟨#[97]⟩, 2), (⟨#[98]⟩, 1)] := by
  have hok : Ok [(⟨#[97]⟩, 2), (⟨#[98]⟩, 1)] := chk_ok.1 (by decide +kernel)
  exact h.ok.same hok fun p => by rw [h.mem]; simp; exact Or.comm

set_option maxHeartbeats 2000000 in
set_option maxRecDepth 100000 in
theorem joins_bad (A B : Option Addr) (ca cb : Nat) (a b : List Pr) (w : World) (hA : SV w A ca a) (hB : SV w B cb b) (la : a.length < 4611686018427387904) (lb : b.length < 4611686018427387904) (ra : Rd a) (h : chk2 a b ≠ 0) :
    Calls Tryd.prog 4 #[.slice A a.length ca, .slice B b.length cb] w fun e w' => e = .returned (.bool true) ∧ Below w.heap.size w w' := by
  have ok1 : Ok [(⟨#[98]⟩, 1)] := chk_ok.1 (by decide +kernel)
  have ok2 : Ok [(⟨#[97]⟩, 2)] := chk_ok.1 (by decide +kernel)
  have hap : Apart [(⟨#[98]⟩, 1)] [(⟨#[97]⟩, 2)] := by intro p hp q hq e; simp at hp hq; subst hp; subst hq; exact absurd e (by decide)
  have HAP := hideP hap
  clear hap
  have hBw := hB.ps
  go_enter Tryd.func4, Tryd.ntmps4
  go_wp2_with fail
  refine (join_bad A B ca cb a b _ hA hB la lb h).mono ?_
  rintro e w1 ⟨rfl, hb1⟩
  have hA1 := hA.below hb1
  have hB1 := hB.below hb1
  clear hA hB
  have s1 := SV.lit1 w1 ⟨#[98]⟩ 1 37
  have hl1 := (Below.refl _ w1).alloc (Nat.le_refl _) (.cells #[.string ⟨#[98]⟩, .int .i64 1] 37)
  have hl2 := (Below.refl _ (w1.alloc (.cells #[.string ⟨#[98]⟩, .int .i64 1] 37))).alloc (Nat.le_refl _) (.cells #[.string ⟨#[97]⟩, .int .i64 2] 37)
  have s2 := SV.lit1 (w1.alloc (.cells #[.string ⟨#[98]⟩, .int .i64 1] 37)) ⟨#[97]⟩ 2 37
  have s1' := s1.below hl2
  have hl3 := hl1.trans (hl2.mono hl1.size)
  have hA2 := hA1.below hl3
  have hB2 := hB1.below hl3
  have hb2 := hb1.trans (hl3.mono hb1.size)
  rw [show (w1.alloc (.cells #[.string ⟨#[98]⟩, .int .i64 1] 37)).heap.size = w1.heap.size + 1 by simp] at s2
  go_wp2_with fail
  refine (join_ok _ _ 1 1 [(⟨#[98]⟩, 1)] [(⟨#[97]⟩, 2)] _ s1' s2 ok1 ok2 (by simp)).mono ?_
  rintro e w2 ⟨hj | ⟨Ax, cx, x, he, hx, hjj⟩, hb3⟩
  · exact absurd HAP.out hj.1
  have hxe := joins_begin w x Ax cx hjj
  subst hxe
  rw [he]
  clear he hjj ok1 ok2 HAP s1 s2 s1' hl1 hl2 hl3 hb1 hA1 hB1
  have hA3 := hA2.below hb3
  have hB3 := hB2.below hb3
  have hb4 := hb2.trans (hb3.mono hb2.size)
  clear hA2 hB2 hb2 hb3
  have s3 := SV.lit2 w2 ⟨#[97]⟩ ⟨#[98]⟩ 2 1 37
  have hl3 := (Below.refl _ w2).alloc (Nat.le_refl _) (.cells #[.string ⟨#[97]⟩, .int .i64 2, .string ⟨#[98]⟩, .int .i64 1] 37)
  have hx3 := hx.below hl3
  have hA4 := hA3.below hl3
  have hB4 := hB3.below hl3
  have hb5 := hb4.trans (hl3.mono hb4.size)
  go_wp2_with fail
  refine (equal_same _ _ _ _ [(⟨#[97]⟩, 2), (⟨#[98]⟩, 1)] _ hx3.ps s3.ps (by simp)).mono ?_
  rintro e w3 ⟨rfl, hb6⟩
  have hA5 := hA4.below hb6
  have hB5 := hB4.below hb6
  have hb7 := hb5.trans (hb6.mono hb5.size)
  clear s3 hl3 hx3 hA4 hB4 hb5 hb6 hx hA3 hB3 hb4
  by_cases ha : chk ByteArray.empty a = 0
  · have e1 : chk2 a b = chk ByteArray.empty b := by simp [chk2, ha]
    rw [e1] at h ⊢
    clear e1
    generalize hC : chk ByteArray.empty b = C at h
    have HC := hideP hC
    have HA := hideP ha
    have d : (C == 0) = false := by simp [h]
    have d2 : (C != 0) = true := by simp [h]
    have d3 : (C == C) = true := by simp
    clear hC h ha
    go_wp2_with fail
    refine (rstore_any A ca a _ hA5.ps la).mono ?_
    rintro e w4 ⟨rfl, hb8⟩
    rw [HA.out]
    have hA6 := hA5.below hb8
    have hB6 := hB5.below hb8
    have hb9 := hb7.trans (hb8.mono hb7.size)
    go_wp2_with fail
    refine (rstore_any B cb b _ hB6.ps lb).mono ?_
    rintro e w5 ⟨rfl, hb10⟩
    rw [HC.out]
    have hA7 := hA6.below hb10
    have hb11 := hb9.trans (hb10.mono hb9.size)
    clear hA5 hB5 hb7 hb8 hA6 hB6 hb9 hb10
    go_wp2_with fail
    refine (of_any A ca a _ hA7.ps la ra).mono ?_
    rintro e w6 ⟨bm, D, rfl, hown, hM, hD, hbm, hb12⟩
    have hbz := hb11.trans (hb12.mono hb11.size)
    clear hD hown hM
    go_wp2_with fail
    go_loopw [9, 47] (fun u i wr => u = .int .i64 C ∧ ∃ k : Nat, k ≤ b.length ∧ i = .int .i64 k ∧ Below w.heap.size w wr) (fun _ i _ => b.length - (intOf i).toNat)
    case atStart => exact ⟨rfl, 0, Nat.zero_le _, rfl, hbz⟩
    case round =>
      obtain ⟨rfl, k, hk, rfl, hbr⟩ := hrel
      by_cases hlt : k < b.length
      · obtain ⟨bb, bo, rfl, hbl, c1, c2⟩ := hBw.below hbr k _ (List.getElem?_eq_getElem hlt)
        clear hBw
        generalize b[k] = p at c1 c2
        have hsz := hbr.size
        have HB := (hbr.alloc hbr.size (.cells #[.string p.1, .int .i64 p.2] 37))
        go_wp2_with fail
        go_roundw
        case rel => exact ⟨rfl, k + 1, by omega, by go_num, HB⟩
        case measure => simp [intOf]; omega
      · go_wp2_with fail
        go_ret
        exact ⟨rfl, hbr⟩
  · have e1 : chk2 a b = chk ByteArray.empty a := by simp [chk2, ha]
    rw [e1] at h ⊢
    clear e1 ha
    generalize hC : chk ByteArray.empty a = C at h
    have HC := hideP hC
    have d : (C == 0) = false := by simp [h]
    have d2 : (C != 0) = true := by simp [h]
    have d3 : (C == C) = true := by simp
    clear hC h
    go_wp2_with fail
    refine (rstore_any A ca a _ hA5.ps la).mono ?_
    rintro e w4 ⟨rfl, hb8⟩
    rw [HC.out]
    have hA6 := hA5.below hb8
    have hb9 := hb7.trans (hb8.mono hb7.size)
    clear hA5 hB5 hb7 hb8
    go_wp2_with fail
    refine (of_any A ca a _ hA6.ps la ra).mono ?_
    rintro e w6 ⟨bm, D, rfl, hown, hM, hD, hbm, hb12⟩
    have hbz := hb9.trans (hb12.mono hb9.size)
    clear hD hown hM
    go_wp2_with fail
    go_loopw [9, 47] (fun u i wr => u = .int .i64 C ∧ ∃ k : Nat, k ≤ b.length ∧ i = .int .i64 k ∧ Below w.heap.size w wr) (fun _ i _ => b.length - (intOf i).toNat)
    case atStart => exact ⟨rfl, 0, Nat.zero_le _, rfl, hbz⟩
    case round =>
      obtain ⟨rfl, k, hk, rfl, hbr⟩ := hrel
      by_cases hlt : k < b.length
      · obtain ⟨bb, bo, rfl, hbl, c1, c2⟩ := hBw.below hbr k _ (List.getElem?_eq_getElem hlt)
        clear hBw
        generalize b[k] = p at c1 c2
        have hsz := hbr.size
        have HB := (hbr.alloc hbr.size (.cells #[.string p.1, .int .i64 p.2] 37))
        go_wp2_with fail
        go_roundw
        case rel => exact ⟨rfl, k + 1, by omega, by go_num, HB⟩
        case measure => simp [intOf]; omega
      · go_wp2_with fail
        go_ret
        exact ⟨rfl, hbr⟩
theorem val_take {b : List Pr} (hb : Ok b) {k : Nat} (hk : k < b.length) : valOf (b.take k) (b[k]).1 = 0 := by
  refine valOf_none fun q hq e => ?_
  obtain ⟨j, hj, rfl⟩ := List.mem_iff_getElem.1 hq
  simp only [List.getElem_take] at e
  simp at hj
  exact ltB_ne (List.pairwise_iff_getElem.1 hb.srt j k (by omega) hk (by omega)) e
theorem valOf_snoc {l : List Pr} {p : Pr} (h : valOf l p.1 = 0) (hl : ∀ q ∈ l, q.1 ≠ p.1) (j : ByteArray) : valOf (l ++ [p]) j = if p.1 = j then p.2 else valOf l j := by
  by_cases e : p.1 = j
  · rw [if_pos e, valOf_append (fun q hq => by rw [← e]; exact hl q hq)]
    simp [valOf, cmpB_zero.2 e]
  · rw [if_neg e]
    have hc : cmpB p.1 j ≠ 0 := fun h => e (cmpB_zero.1 h)
    induction l with
    | nil => simp [valOf, hc]
    | cons q r ih =>
      by_cases e2 : cmpB q.1 j = 0
      · simp [valOf, e2]
      · have h2 : valOf r p.1 = 0 := valOf_none fun x hx => hl x (by simp [hx])
        simp only [List.cons_append, valOf, if_neg e2]
        exact ih h2 fun x hx => hl x (by simp [hx])
theorem JMap.look {a b : List Pr} {D : DataW Unit} {k : Nat} (hb : Ok b) (hk : k < b.length) (h : ∀ j, mv D j = if valOf (b.take k) j = 0 then valOf a j else valOf (b.take k) j) : mv D (b[k]).1 = valOf a (b[k]).1 := by
  rw [h, if_pos (val_take hb hk)]
theorem JMap.step {a b : List Pr} {D : DataW Unit} {k : Nat} (ha : Ok a) (hb : Ok b) (hk : k < b.length) (hM : IsMap D) (hap : Apart a (b.take k)) (h : ∀ j, mv D j = if valOf (b.take k) j = 0 then valOf a j else valOf (b.take k) j) (h0 : valOf a (b[k]).1 = 0) :
    JMap a b (k + 1) 0 (D.put (kl (b[k]).1) (.lit (.int .i64 (b[k]).2))) := by
  have ht : b.take (k + 1) = b.take k ++ [b[k]] := List.take_succ_eq_append_getElem hk
  refine .inl ⟨rfl, fun p hp q hq => ?_, fun j => ?_⟩
  · rw [ht] at hq
    rcases List.mem_append.1 hq with hq | hq
    · exact hap p hp q hq
    · simp at hq; subst hq; exact apart_val ha h0 p hp
  · have hl : ∀ q ∈ b.take k, q.1 ≠ (b[k]).1 := fun q hq e => by
      have h1 := val_take hb hk
      have h2 := valOf_mem (hb.srt.sublist (List.take_sublist k b)) hq
      rw [e, h1] at h2
      exact hb.nz q (List.mem_of_mem_take hq) h2.symm
    rw [ht, valOf_snoc (val_take hb hk) hl]
    by_cases e : (b[k]).1 = j
    · rw [if_pos e, if_neg (hb.nz _ (List.getElem_mem hk)), ← e]
      exact mv_put_same hM _ _
    · rw [if_neg e, ← h]
      exact mv_put_other (fun h => e h.symm) _
theorem JMap.clash {a b : List Pr} {k : Nat} (hk : k < b.length) (h0 : valOf a (b[k]).1 ≠ 0) (D : DataW Unit) (m : Nat) : JMap a b m 5 D := by
  refine .inr ⟨rfl, fun h => ?_⟩
  obtain ⟨p, hp, e⟩ := valOf_ne h0
  exact h p hp _ (List.getElem_mem hk) e

set_option maxHeartbeats 1500000 in
set_option maxRecDepth 100000 in
theorem joins_good (A B : Option Addr) (ca cb : Nat) (a b : List Pr) (w : World) (hA : SV w A ca a) (hB : SV w B cb b) (ha : Ok a) (hb : Ok b) :
    Calls Tryd.prog 4 #[.slice A a.length ca, .slice B b.length cb] w fun e w' => e = .returned (.bool true) ∧ Below w.heap.size w w' := by
  have la := ha.small
  have lb := hb.small
  have ok1 : Ok [(⟨#[98]⟩, 1)] := chk_ok.1 (by decide +kernel)
  have ok2 : Ok [(⟨#[97]⟩, 2)] := chk_ok.1 (by decide +kernel)
  have hap : Apart [(⟨#[98]⟩, 1)] [(⟨#[97]⟩, 2)] := by intro p hp q hq e; simp at hp hq; subst hp; subst hq; exact absurd e (by decide)
  have HAP := hideP hap
  have HCa := hideP (chk_ok.2 ha)
  have HCb := hideP (chk_ok.2 hb)
  clear hap
  have hBw := hB.ps
  go_enter Tryd.func4, Tryd.ntmps4
  go_wp2_with fail
  refine (join_ok A B ca cb a b _ hA hB ha hb (by omega)).mono ?_
  rintro e w1 ⟨hcase, hb1⟩
  obtain ⟨vl, cl, hl, he, hcl⟩ : ∃ vl cl, ∃ hl : (cl = 5 ∧ ¬ Apart a b ∧ vl = .slice none 0 0) ∨ (cl = 0 ∧ ∃ A' c' l', vl = .slice A' l'.length c' ∧ SV w1 A' c' l' ∧ Joined a b l'), e = .returned (.tuple #[vl, .int .i64 cl]) ∧ True := by
    rcases hcase with ⟨h1, h2⟩ | ⟨A', c', l', h1, h2, h3⟩
    · exact ⟨_, 5, .inl ⟨rfl, h1, rfl⟩, h2, trivial⟩
    · exact ⟨_, 0, .inr ⟨rfl, A', c', l', rfl, h2, h3⟩, h1, trivial⟩
  rw [he]
  clear he hcl hcase
  have HLL := hideP hl
  clear hl
  have hA1 := hA.below hb1
  have hB1 := hB.below hb1
  clear hA hB
  have s1 := SV.lit1 w1 ⟨#[98]⟩ 1 37
  have hl1 := (Below.refl _ w1).alloc (Nat.le_refl _) (.cells #[.string ⟨#[98]⟩, .int .i64 1] 37)
  have hl2 := (Below.refl _ (w1.alloc (.cells #[.string ⟨#[98]⟩, .int .i64 1] 37))).alloc (Nat.le_refl _) (.cells #[.string ⟨#[97]⟩, .int .i64 2] 37)
  have s2 := SV.lit1 (w1.alloc (.cells #[.string ⟨#[98]⟩, .int .i64 1] 37)) ⟨#[97]⟩ 2 37
  have s1' := s1.below hl2
  have hl3 := hl1.trans (hl2.mono hl1.size)
  have hA2 := hA1.below hl3
  have hB2 := hB1.below hl3
  have hb2 := hb1.trans (hl3.mono hb1.size)
  rw [show (w1.alloc (.cells #[.string ⟨#[98]⟩, .int .i64 1] 37)).heap.size = w1.heap.size + 1 by simp] at s2
  go_wp2_with fail
  refine (join_ok _ _ 1 1 [(⟨#[98]⟩, 1)] [(⟨#[97]⟩, 2)] _ s1' s2 ok1 ok2 (by simp)).mono ?_
  rintro e w2 ⟨hj | ⟨Ax, cx, x, he, hx, hjj⟩, hb3⟩
  · exact absurd HAP.out hj.1
  have hxe := joins_begin w x Ax cx hjj
  subst hxe
  rw [he]
  clear he hjj ok1 ok2 HAP s1 s2 s1' hl1 hl2 hb1 hA1 hB1
  have hA3 := hA2.below hb3
  have hB3 := hB2.below hb3
  have hb4 := hb2.trans (hb3.mono hb2.size)
  have hq4 := hl3.trans (hb3.mono hl3.size)
  clear hl3
  clear hA2 hB2 hb2 hb3
  have s3 := SV.lit2 w2 ⟨#[97]⟩ ⟨#[98]⟩ 2 1 37
  have hl3 := (Below.refl _ w2).alloc (Nat.le_refl _) (.cells #[.string ⟨#[97]⟩, .int .i64 2, .string ⟨#[98]⟩, .int .i64 1] 37)
  have hx3 := hx.below hl3
  have hA4 := hA3.below hl3
  have hB4 := hB3.below hl3
  have hb5 := hb4.trans (hl3.mono hb4.size)
  have hq5 := hq4.trans (hl3.mono hq4.size)
  go_wp2_with fail
  refine (equal_same _ _ _ _ [(⟨#[97]⟩, 2), (⟨#[98]⟩, 1)] _ hx3.ps s3.ps (by simp)).mono ?_
  rintro e w3 ⟨rfl, hb6⟩
  have hA5 := hA4.below hb6
  have hB5 := hB4.below hb6
  have hb7 := hb5.trans (hb6.mono hb5.size)
  have hq7 := hq5.trans (hb6.mono hq5.size)
  clear s3 hl3 hx3 hA4 hB4 hb5 hb6 hx hA3 hB3 hb4 hq4 hq5
  go_wp2_with fail
  refine (rstore_any A ca a _ hA5.ps (by omega)).mono ?_
  rintro e w4 ⟨rfl, hb8⟩
  rw [HCa.out]
  have hA6 := hA5.below hb8
  have hB6 := hB5.below hb8
  have hb9 := hb7.trans (hb8.mono hb7.size)
  have hq9 := hq7.trans (hb8.mono hq7.size)
  go_wp2_with fail
  refine (rstore_any B cb b _ hB6.ps (by omega)).mono ?_
  rintro e w5 ⟨rfl, hb10⟩
  rw [HCb.out]
  have hA7 := hA6.below hb10
  have hb11 := hb9.trans (hb10.mono hb9.size)
  have hq11 := hq9.trans (hb10.mono hq9.size)
  clear hA5 hB5 hb7 hb8 hA6 hB6 hb9 hb10 hq7 hq9
  go_wp2_with fail
  refine (of_any A ca a _ hA7.ps (by omega) ha.rd).mono ?_
  rintro e w6 ⟨bm, D, rfl, hown, hM, hD, hbm, hb12⟩
  have hbz := hb11.trans (hb12.mono hb11.size)
  have hqz := hq11.trans (hb12.mono hq11.size)
  have hJ0 : JMap a b 0 0 D := .inl ⟨rfl, fun p hp q hq => by simp at hq, fun j => by rw [hD, lastV_eq ha.srt]; simp [valOf]⟩
  have hbm1 : w1.heap.size ≤ bm := Nat.le_trans hq11.size hbm
  have hbm0 : w.heap.size ≤ bm := Nat.le_trans hb11.size hbm
  clear hD hb11 hb12 hq11 hA7 hbm HCa HCb
  go_wp2_with fail
  go_loopw [9, 47] (fun u i wr => ∃ (k : Nat) (want : Int) (D : DataW Unit), u = .int .i64 want ∧ k ≤ b.length ∧ i = .int .i64 k ∧ wr.ownsMap Tryd.prog 9 (plainElem Tryd.prog 3) bm (a.length + k) D ∧ IsMap D ∧ JMap a b k want D ∧ Below w.heap.size w wr ∧ Below w1.heap.size w1 wr) (fun _ i _ => b.length - (intOf i).toNat)
  case atStart => exact ⟨0, 0, D, rfl, Nat.zero_le _, rfl, hown, hM, hJ0, hbz, hqz⟩
  case round =>
    clear hown hM hJ0 hbz hqz
    obtain ⟨k, want, D, rfl, hk, rfl, hown, hM, hJ, hbr, hqr⟩ := hrel
    by_cases hlt : k < b.length
    · obtain ⟨bb, bo, rfl, hbl, c1, c2⟩ := hBw.below hbr k _ (List.getElem?_eq_getElem hlt)
      clear hBw
      have hpr := hb.rd _ (List.getElem_mem hlt)
      have hsz := hbr.size
      have HB := (hbr.alloc hbr.size (.cells #[.string (b[k]).1, .int .i64 (b[k]).2] 37))
      have HQ := (hqr.alloc hqr.size (.cells #[.string (b[k]).1, .int .i64 (b[k]).2] 37))
      have hown2 := hown.alloc (.cells #[.string (b[k]).1, .int .i64 (b[k]).2] 37)
      rcases hJ with ⟨rfl, hap, hD⟩ | ⟨rfl, hnap⟩
      · have hlook := JMap.look hb hlt hD
        have hl1 := look_any hown2 (b[k]).1 hpr.1
        rw [hlook] at hl1
        by_cases h0 : valOf a (b[k]).1 = 0
        · have hst := hideP (JMap.step ha hb hlt hM hap hD h0)
          rw [h0] at hl1
          have d0 : ((0 : Int) != 0) = false := by decide
          have HM2 := hideP (hM.put (kl (b[k]).1) (.lit (.int .i64 (b[k]).2)))
          have r1 := hpr.1
          have R2 := hideP hpr.2
          clear hlook h0 hap hD hM hpr
          generalize b[k] = p at c1 c2 HB HQ hown2 hl1 hst HM2 r1 R2
          go_wp2_with (first
            | (at_mapUpdate; refine wpList_mapUpdate_own _ rfl _ _ _ 34 rfl 9 3 law9 Tryd.underlying34 _ bm (a.length + k) _ rfl hown2 (by unfold maxLen; omega) _ _ _ rfl rfl (keyOf_string_mk Tryd.underlying9 r1) _ [] (plainElem_int Tryd.underlying3 R2.out) ?_; intro w3 hown3 hg3; go_frame)
            | go_in)
          go_roundw
          case rel => exact ⟨k + 1, 0, _, rfl, by omega, by go_num, hown3, HM2.out, hst.out, HB.grown hg3 HB.size (fun j hj => by cases hj; exact hbm0), HQ.grown hg3 HQ.size (fun j hj => by cases hj; exact hbm1)⟩
          case measure => simp [intOf]; omega
        · have hst := hideP (JMap.clash hlt h0 D (k + 1))
          have d0 : (valOf a (b[k]).1 != 0) = true := by simp [h0]
          clear hlook h0 hap hD hpr
          generalize b[k] = p at c1 c2 HB HQ hown2 hl1 d0
          generalize valOf a p.1 = V at hl1 d0
          go_wp2_with fail
          go_roundw
          case rel => exact ⟨k + 1, 5, D, rfl, by omega, by go_num, hown2.mono (by omega), hM, hst.out, HB, HQ⟩
          case measure => simp [intOf]; omega
      · have hst : Hid (JMap a b (k + 1) 5 D) := .inr ⟨rfl, hnap⟩
        clear hpr hnap
        generalize b[k] = p at c1 c2 HB HQ hown2
        go_wp2_with fail
        go_roundw
        case rel => exact ⟨k + 1, 5, D, rfl, by omega, by go_num, hown2.mono (by omega), hM, hst.out, HB, HQ⟩
        case measure => simp [intOf]; omega
    · obtain rfl : k = b.length := by omega
      rcases hJ with ⟨rfl, hap, hD⟩ | ⟨rfl, hnap⟩
      · rw [List.take_length] at hap hD
        have HD := hideP hD
        clear hD
        rcases HLL.out with ⟨rfl, hn, rfl⟩ | ⟨rfl, A', c', l', rfl, hsv, hj⟩
        · exact absurd hap hn
        have hsz2 := hown.size_le
        have hll : l'.length ≤ a.length + b.length := Nat.le_of_eq hj.len
        have hsv2 := hsv.below hqr
        clear HLL hsv
        go_wp2_with fail
        refine (list_any bm (a.length + b.length) D _ hown (by omega)).mono ?_
        rintro e w7 ⟨Am, cm, m, rfl, hsm, hli, _, hb20⟩
        obtain rfl : m = l' := JMap.done ha hb HD.out hj hli
        have hsv3 := hsv2.below hb20
        have hb21 := hbr.trans (hb20.mono hbr.size)
        clear HD hj hli hsv2 hb20
        go_wp2_with fail
        refine (equal_same _ _ _ _ m _ hsv3.ps hsm.ps (by omega)).mono ?_
        rintro e w8 ⟨rfl, hb22⟩
        have hb23 := hb21.trans (hb22.mono hb21.size)
        go_wp2_with fail
        go_ret
        exact ⟨rfl, hb23⟩
      · rcases HLL.out with ⟨rfl, hn, rfl⟩ | ⟨rfl, A', c', l', rfl, hsv, hj⟩
        · clear HLL
          go_wp2_with fail
          go_ret
          exact ⟨rfl, hbr⟩
        · exact absurd hj.apart hnap
end Go.Proofs.YtikklfoenjmdgaaDoor
