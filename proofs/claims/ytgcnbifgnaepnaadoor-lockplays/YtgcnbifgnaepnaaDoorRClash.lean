/-
  roref.Clash.
-/
import Derived.Test.YtgcnbifgnaepnaaDoorTouch
import Derived.Test.YtgcnbifgnaepnaaDoorClPl
import Derived.Maps.RangeWalk
import Derived.Sort.KeysCollected
import Derived.Sort.OwnSorted
set_option linter.unusedVariables false
set_option linter.unusedSimpArgs false
namespace Go.Proofs.YtgcnbifgnaepnaaDoor
open Go.RowKit Go.WideMaps Go.Maps

/-- while a set is gone through: nothing that has come up has p -/
def GoInv (wb : World) (x n : Nat) (D : DataW Unit) (p : ByteArray → Bool) (wr : World) : Prop :=
  ∃ (left : Lit → Bool) (cnt : Nat), wr.ranges Tryd.prog 9 (plainElem Tryd.prog 4) x wb.heap.size n D left cnt ∧ (∀ k : ByteArray, Maps.has D (kl k) = true → left (kl k) = false → p k = false) ∧ Below wb.heap.size wb wr
theorem go_step {D : DataW Unit} {left : Lit → Bool} {p : ByteArray → Bool} (h : ∀ k : ByteArray, Maps.has D (kl k) = true → left (kl k) = false → p k = false) {x : ByteArray} (hx : p x = false) : ∀ k : ByteArray, Maps.has D (kl k) = true → (left (kl k) && !(kl k).sameKey (kl x)) = false → p k = false := fun k h1 h2 => by
  cases hl : left (kl k)
  · exact h k h1 hl
  · have : (kl k).sameKey (kl x) = true := by simpa [hl] using h2
    rw [same_kl this]; exact hx
theorem key_size {ks : List ByteArray} (h : ∀ k ∈ ks, keyB k = true) {x : ByteArray} (hx : x ∈ ks) : x.size ≤ maxLen := by have := h x hx; simp [keyB] at this; unfold maxLen; omega
theorem rdL_ok {d : List Opr} (h : ∀ o ∈ d, chkO o = 0) : ∀ k ∈ rdL d, keyB k = true := fun k hk => by
  obtain ⟨o, ho, hk⟩ := List.mem_flatMap.1 hk
  have hc := chkO_zero.1 (h o ho)
  obtain ⟨kd, key, src, n⟩ := o
  simp only at hc
  rcases (show kd = 1 ∨ kd = 2 ∨ kd = 3 ∨ kd = 4 ∨ kd = 5 by omega) with rfl | rfl | rfl | rfl | rfl <;> simp [rdO] at hk
  · rw [hk]; exact hc.2.2.1
  · rw [hk]; exact (hc.2.2.2.1 (by simp)).1
  · rw [hk]; exact hc.2.2.1
  · rcases hk with rfl | rfl
    · exact (hc.2.2.2.1 (by simp)).1
    · exact hc.2.2.1
theorem wrL_ok {d : List Opr} (h : ∀ o ∈ d, chkO o = 0) : ∀ k ∈ wrL d, keyB k = true := fun k hk => by
  obtain ⟨o, ho, hk⟩ := List.mem_flatMap.1 hk
  have hc := chkO_zero.1 (h o ho)
  obtain ⟨kd, key, src, n⟩ := o
  simp only at hc
  rcases (show kd = 1 ∨ kd = 2 ∨ kd = 3 ∨ kd = 4 ∨ kd = 5 by omega) with rfl | rfl | rfl | rfl | rfl <;> simp [wrO] at hk
  · rw [hk]; exact hc.2.2.1
  · rw [hk]; exact hc.2.2.1
  · rw [hk]; exact hc.2.2.1
  · rcases hk with rfl | rfl
    · exact (hc.2.2.2.1 (by simp)).1
    · exact hc.2.2.1

set_option maxRecDepth 100000 in
set_option maxHeartbeats 1000000 in
theorem rclash_any (D1 D2 : Option Addr) (k1 k2 : Nat) (a b : List Opr) (w : World) (ha : OS w w.heap.size D1 a) (hb : OS w w.heap.size D2 b) (ca : chkD a = 0) (cb : chkD b = 0) :
    Calls Tryd.prog 35 #[.agg #[.slice D1 a.length k1], .agg #[.slice D2 b.length k2]] w fun e w' => e = .returned (.bool (clB a b)) ∧ Below w.heap.size w w' := by
  have hb0 := ((Below.refl w.heap.size w).alloc (Nat.le_refl _) (.cells #[.slice D1 a.length k1] 36)).alloc (by simp) (.cells #[.slice D2 b.length k2] 36)
  have hat : ((w.alloc (.cells #[.slice D1 a.length k1] 36)).alloc (.cells #[.slice D2 b.length k2] 36)).cell? ⟨w.heap.size + 1, 0, none⟩ = some (.slice D2 b.length k2) := by simp
  have hlt : w.heap.size + 1 < ((w.alloc (.cells #[.slice D1 a.length k1] 36)).alloc (.cells #[.slice D2 b.length k2] 36)).heap.size := by simp
  have ha0 := ha.go hb0
  have hbb0 := hb.go hb0
  clear ha hb
  go_enter Tryd.func35, Tryd.ntmps35
  go_wp2_with fail
  generalize (w.alloc (.cells #[.slice D1 a.length k1] 36)).alloc (.cells #[.slice D2 b.length k2] 36) = w0 at hb0 hat hlt ha0 hbb0 ⊢
  refine (touches_any D1 k1 a _ ha0 ca).mono ?_
  rintro e w1 ⟨r, x, n, Dr, Dx, rfl, hS1, hn1, hb1⟩
  have hat1 := (hb1.cell (p := ⟨w.heap.size + 1, 0, none⟩) hlt).trans hat
  have hb2 := hb0.trans (hb1.mono hb0.size)
  have hbb1 := hbb0.go hb1
  clear ha0 hbb0 hat hlt hb0 hb1
  go_wp2_with fail
  refine (touches_any D2 k2 b _ hbb1 cb).mono ?_
  rintro e w2 ⟨r2, x2, n2, Dr2, Dx2, rfl, hS2, hn2, hb3⟩
  have hb4 := hb2.trans (hb3.mono hb2.size)
  have hS1' := hS1.below hb3
  clear hS1 hb2 hb3 hbb1 hat1
  go_wp2_with (first
    | (at_range; refine wpList_range_own _ rfl _ 91 rfl 9 4 law9 Tryd.underlying91 _ x n _ rfl hS1'.m2 ?_; intro w3 hrg0 hg0 hs0)
    | go_in)
  go_frame
  have hwk := hideP (wrL_ok (chkD_zero.1 ca).2.2)
  have hrk := hideP (rdL_ok (chkD_zero.1 ca).2.2)
  have hbw : Below w2.heap.size w2 w3 := (Below.refl _ w2).grown hg0 (Nat.le_refl _) (fun j hj => by cases hj)
  have h21 := hS1'.k2
  have h12 := hideP (fun j => hS2.k1.val j)
  have h22 := hideP (fun j => hS2.k2.val j)
  clear hg0 hs0
  go_loopw [] (GoInv w2 x n Dx (fun k => inB k (rdL b) || inB k (wrL b))) (fun wr => wr.rangeLeft x w2.heap.size)
  case atStart => exact ⟨_, _, hrg0, (fun k h1 h2 => by rw [h1] at h2; cases h2), hbw⟩
  case round =>
    obtain ⟨left, cnt, hrg, hno, hbr⟩ := hrel
    have HNO := hideP hno
    clear hrg0 hbw hno
    go_wp2_with (first
      | (at_next; refine wpList_next_ranges _ rfl _ rfl 9 law9 (plainElem Tryd.prog 4) Value.string (fun x : BB => Value.bool x.b) (fun key kl hk => by obtain ⟨x, hx, _⟩ := Maps.keyOf_str Tryd.underlying9 hk; exact ⟨_, hx⟩) (fun v y hv => by obtain ⟨c, rfl, _⟩ := plainElem_bool_inv Tryd.underlying4 hv; exact ⟨⟨c⟩, rfl⟩) x w2.heap.size n _ _ _ rfl hrg ?_ ?_)
      | go_in)
    · intro hc0 hl0
      have HW := hideP (fun k (hk : k ∈ wrL a) => HNO.out k ((h21.has k).2 hk) (hl0 _))
      have hS3 := hS1'.below hbr
      have hS4 := hS2.below hbr
      have hb5 := hb4.trans (hbr.mono hb4.size)
      have h11 := hS1'.k1
      clear hrg hl0 HNO hS1' hS2 hbr hb4
      obtain ⟨wq, rfl⟩ : ∃ wq, wq = wr := ⟨_, rfl⟩
      go_wp2_with (first
        | (at_range; refine wpList_range_own _ rfl _ 91 rfl 9 4 law9 Tryd.underlying91 _ r n _ rfl hS3.m1 ?_; intro w4 hrg1 hg1 hs1)
        | go_in)
      go_frame
      have hbw : Below wq.heap.size wq w4 := (Below.refl _ wq).grown hg1 (Nat.le_refl _) (fun j hj => by cases hj)
      clear hg1 hs1
      go_loopw [] (GoInv wq r n Dr (fun k => inB k (wrL b))) (fun wr => wr.rangeLeft r wq.heap.size)
      case atStart => exact ⟨_, _, hrg1, (fun k h1 h2 => by rw [h1] at h2; cases h2), hbw⟩
      case round =>
        obtain ⟨left, cnt, hrg, hno, hbr⟩ := hrel
        have HNO := hideP hno
        clear hrg1 hbw hno
        go_wp2_with (first
          | (at_next; refine wpList_next_ranges _ rfl _ rfl 9 law9 (plainElem Tryd.prog 4) Value.string (fun x : BB => Value.bool x.b) (fun key kl hk => by obtain ⟨x, hx, _⟩ := Maps.keyOf_str Tryd.underlying9 hk; exact ⟨_, hx⟩) (fun v y hv => by obtain ⟨c, rfl, _⟩ := plainElem_bool_inv Tryd.underlying4 hv; exact ⟨⟨c⟩, rfl⟩) r wq.heap.size n _ _ _ rfl hrg ?_ ?_)
          | go_in)
        · intro hc0 hl0
          have HR := hideP (fun k (hk : k ∈ rdL a) => HNO.out k ((h11.has k).2 hk) (hl0 _))
          have hb6 := hb5.trans (hbr.mono hb5.size)
          clear hrg hl0 HNO hS3 hS4 hbr hb5
          go_wp2_with fail
          go_ret
          refine ⟨ret_bool ?_, hb6⟩
          symm
          unfold clB
          have c1 : comB (wrL a) (wrL b) = false := by
            cases e : comB (wrL a) (wrL b)
            · rfl
            · obtain ⟨k, h1, h2⟩ := comB_iff.1 e; have := HW.out k h1; rw [inB_iff.2 h2] at this; simp at this
          have c2 : comB (wrL a) (rdL b) = false := by
            cases e : comB (wrL a) (rdL b)
            · rfl
            · obtain ⟨k, h1, h2⟩ := comB_iff.1 e; have := HW.out k h1; rw [inB_iff.2 h2] at this; simp at this
          have c3 : comB (rdL a) (wrL b) = false := by
            cases e : comB (rdL a) (wrL b)
            · rfl
            · obtain ⟨k, h1, h2⟩ := comB_iff.1 e; have := HR.out k h1; rw [inB_iff.2 h2] at this; cases this
          rw [c1, c2, c3]; rfl
        · intro y c' kl' yd yp w5 cnt2 hkey hlk hv hat hrg2 hlt hg2 hs2 hen
          obtain ⟨x', ex, rfl, _⟩ := Maps.keyOf_str Tryd.underlying9 hkey
          obtain rfl : x' = y.data.toList := by unfold encStr at ex; injection ex with ex; rw [ex]
          have hin : y ∈ rdL a := (h11.has y).1 (has_true_of_atKey (k := kl y) hat)
          have hsz := key_size hrk.out hin
          have hb6 : Below wq.heap.size wq w5 := hbr.grown hg2 hbr.size (fun j hj => by cases hj; exact Nat.le_refl _)
          have l2 := blook_any (hS4.below hb6).m2 y hsz
          rw [h22.out] at l2
          have HST := hideP (fun h => go_step HNO.out (x := y) h)
          clear hkey hv hat ex hg2 hbr HNO hlk hs2
          cases hq : inB y (wrL b)
          · rw [hq] at l2
            have HQ := hideP hq
            clear hq
            go_wp2_with fail
            go_roundw
            case rel => exact ⟨_, cnt2, hrg2, HST.out HQ.out, hb6⟩
            case measure => rw [hrg2.left_eq, hrg.left_eq]; exact hlt
          · rw [hq] at l2
            have HQ := hideP (show clB a b = true by unfold clB; rw [comB_iff.2 ⟨y, hin, inB_iff.1 hq⟩]; simp)
            have hb7 := hb5.trans (hb6.mono hb5.size)
            clear hq
            go_wp2_with fail
            go_ret
            exact ⟨ret_bool HQ.out.symm, hb7⟩
    · intro y c' kl' yd yp w5 cnt2 hkey hlk hv hat hrg2 hlt hg2 hs2 hen
      obtain ⟨x', ex, rfl, _⟩ := Maps.keyOf_str Tryd.underlying9 hkey
      obtain rfl : x' = y.data.toList := by unfold encStr at ex; injection ex with ex; rw [ex]
      have hin : y ∈ wrL a := (h21.has y).1 (has_true_of_atKey (k := kl y) hat)
      have hsz := key_size hwk.out hin
      have hb6 : Below w2.heap.size w2 w5 := hbr.grown hg2 hbr.size (fun j hj => by cases hj; exact Nat.le_refl _)
      have l1 := blook_any (hS2.below hb6).m1 y hsz
      have l2 := blook_any (hS2.below hb6).m2 y hsz
      rw [h12.out] at l1
      rw [h22.out] at l2
      have HST := hideP (fun h => go_step HNO.out (x := y) h)
      clear hkey hv hat ex hg2 hbr HNO hlk hs2
      cases hp : inB y (rdL b)
      · cases hq : inB y (wrL b)
        · rw [hp] at l1
          rw [hq] at l2
          have HQ := hideP (show (inB y (rdL b) || inB y (wrL b)) = false by rw [hp, hq]; rfl)
          clear hp hq
          go_wp2_with fail
          go_roundw
          case rel => exact ⟨_, cnt2, hrg2, HST.out HQ.out, hb6⟩
          case measure => rw [hrg2.left_eq, hrg.left_eq]; exact hlt
        · rw [hp] at l1
          rw [hq] at l2
          have HQ := hideP (show clB a b = true by unfold clB; rw [comB_iff.2 ⟨y, hin, inB_iff.1 hq⟩]; simp)
          have hb7 := hb4.trans (hb6.mono hb4.size)
          clear hp hq
          go_wp2_with fail
          go_ret
          exact ⟨ret_bool HQ.out.symm, hb7⟩
      · rw [hp] at l1
        have HQ := hideP (show clB a b = true by unfold clB; rw [comB_iff.2 ⟨y, hin, inB_iff.1 hp⟩]; simp)
        have hb7 := hb4.trans (hb6.mono hb4.size)
        clear hp
        go_wp2_with fail
        go_ret
        exact ⟨ret_bool HQ.out.symm, hb7⟩
end Go.Proofs.YtgcnbifgnaepnaaDoor
