/-
  rokeep.Map in other words; rokeep.Key.
  store.Check: what it answers.
  There are no more valid keys than 27^6, so that a valid store is no longer (no program in it).
  shard.Part.
-/
import Derived.Test.YtmepmiokpcddbabGreatDoorCb15
import Derived.Test.YtmepmiokpcddbabGreatDoorCb16
import Derived.Test.YtmepmiokpcddbabGreatDoorCb3
import Derived.Test.YtmepmiokpcddbabGreatDoorCb7
import Derived.Deep.RegionHeld3
import Derived.Test.YtmepmiokpcddbabGreatDoorCb8
import Derived.Test.YtmepmiokpcddbabGreatDoorCb4
set_option linter.unusedVariables false
set_option linter.unusedSimpArgs false
namespace Go.Proofs.YtmepmiokpcddbabGreatDoor
open Go.RowKit

/-- a map is handed back, a valid one with few cuts -/
def RetMk (w : World) (e : Ending) (w' : World) : Prop := ∃ m : Mp, e = .returned (.agg #[.slice m.A m.cs.length m.ca, .slice m.O m.os.length m.co]) ∧ OkM m.cs m.os ∧ m.cs.length ≤ 6 ∧ MO w' w.heap.size m ∧ Below w.heap.size w w'
theorem kmap_mk (P : Option Addr) (cp : Nat) (zs : List Int) (w : World) (hP : IS w P zs) (hl : zs.length ≤ 9223372036854775807) :
    Calls Tryz.prog 51 #[.slice P zs.length cp] w (RetMk w) := by
  refine (kmap_any P cp zs w hP hl).mono ?_
  rintro e w' ⟨A, ca, O, co, rfl, h1, h2, hb⟩
  refine ⟨⟨A, ca, (mapR zs 6).1, O, co, (mapR zs 6).2.map fun (k : Nat) => (k : Int)⟩, by simp only [List.length_map], mapR_ok zs, mapR_few zs 6, ⟨h1, ?_⟩, hb⟩
  have e : ((mapR zs 6).2.map fun (k : Nat) => (k : Int)).map (Value.int .i64) = nV (mapR zs 6).2 := by simp [nV]
  show OR w' w.heap.size 3 O co (((mapR zs 6).2.map fun (k : Nat) => (k : Int)).map (Value.int .i64))
  rw [e]; exact h2
theorem rkey_be (k : Int) (w : World) : Calls Tryz.prog 35 #[.int .i64 k] w fun e w' => e = .returned (.string (keyN (wi k 8))) ∧ Below w.heap.size w w' := by
  refine (rkey_any k w).mono ?_
  rintro e w' ⟨rfl, rfl⟩
  exact ⟨rfl, (Below.refl _ _).alloc (Nat.le_refl _) _⟩
end Go.Proofs.YtmepmiokpcddbabGreatDoor

set_option linter.unusedVariables false
set_option linter.unusedSimpArgs false
namespace Go.Proofs.YtmepmiokpcddbabGreatDoor
open Go.RowKit

set_option maxHeartbeats 400000 in
theorem check_any (A : Option Addr) (c : Nat) (l : List Pr) (w : World) (hA : PS w w.heap.size A l) (hl : l.length < 4611686018427387904) :
    Calls Tryz.prog 131 #[.slice A l.length c] w fun e w' => e = .returned (.int .i64 (chk ByteArray.empty l)) ∧ Below w.heap.size w w' := by
  go_enter Tryz.func131, Tryz.ntmps131
  go_wp2
  go_loopw [3, 8] (fun s i wr => ∃ (k : Nat) (bf : ByteArray), k ≤ l.length ∧ i = .int .i64 k ∧ s = .string bf ∧ chk ByteArray.empty l = chk bf (l.drop k) ∧ Below w.heap.size w wr) (fun _ i _ => l.length - (intOf i).toNat)
  case atStart => exact ⟨0, ByteArray.empty, Nat.zero_le _, rfl, rfl, rfl, Below.refl _ _⟩
  case round =>
    obtain ⟨k, bf, hk, rfl, rfl, hchk, hb⟩ := hrel
    have HC := hideP hchk
    clear hchk
    by_cases hlt : k < l.length
    · obtain ⟨b, o, rfl, hbl, c1, c2⟩ := hA.below hb k _ (List.getElem?_eq_getElem hlt)
      clear hA
      generalize hp : l[k] = p at c1 c2
      have HP := hideP hp
      clear hp
      have hsz := hb.size
      have HB := (hb.alloc hb.size (.cells #[.string p.1, .int .i64 p.2] 65))
      cases hkb : keyB p.1
      · go_wp2_with fail
        refine (key_any _ _).mono ?_
        rintro e w' ⟨rfl, rfl⟩
        go_wp2_with fail
        go_ret
        exact ⟨ret_int (by rw [HC.out, chk_key hlt HP.out hkb]), HB⟩
      · cases hvb : valB p.2
        · go_wp2_with fail
          refine (key_any _ _).mono ?_
          rintro e w' ⟨rfl, rfl⟩
          go_wp2_with fail
          refine (value_any _ _).mono ?_
          rintro e w' ⟨rfl, rfl⟩
          go_wp2_with fail
          go_ret
          exact ⟨ret_int (by rw [HC.out, chk_val hlt HP.out hkb hvb]), HB⟩
        · by_cases h0 : p.2 = 0
          · have d0 : (p.2 == 0) = true := by simp [h0]
            have H0 := hideP h0
            clear h0
            go_wp2_with fail
            refine (key_any _ _).mono ?_
            rintro e w' ⟨rfl, rfl⟩
            go_wp2_with fail
            refine (value_any _ _).mono ?_
            rintro e w' ⟨rfl, rfl⟩
            go_wp2_with fail
            go_ret
            exact ⟨ret_int (by rw [HC.out, chk_zero hlt HP.out hkb hvb H0.out]), HB⟩
          · have d0 : (p.2 == 0) = false := by simp [h0]
            have H0 := hideP h0
            clear h0
            cases hle : leB p.1 bf
            · have HL := hideP hle
              have d1 : Op.bytesLess p.1.toList bf.toList = false := by simp [leB] at hle; exact hle.1
              have d2 : (p.1.toList == bf.toList) = false := by simp [leB] at hle; simpa using hle.2
              clear hle
              go_wp2_with fail
              refine (key_any _ _).mono ?_
              rintro e w' ⟨rfl, rfl⟩
              go_wp2_with fail
              refine (value_any _ _).mono ?_
              rintro e w' ⟨rfl, rfl⟩
              go_wp2_with fail
              go_roundw
              case rel => exact ⟨k + 1, p.1, by omega, by go_num, rfl, by rw [HC.out, chk_next hlt HP.out hkb hvb H0.out HL.out], HB⟩
              case measure => simp [intOf]; omega
            · have HL := hideP hle
              have d1 : (Op.bytesLess p.1.toList bf.toList || p.1.toList == bf.toList) = true := by simpa [leB] using hle
              clear hle
              go_wp2_with fail
              refine (key_any _ _).mono ?_
              rintro e w' ⟨rfl, rfl⟩
              go_wp2_with fail
              refine (value_any _ _).mono ?_
              rintro e w' ⟨rfl, rfl⟩
              go_wp2_with fail
              go_ret
              exact ⟨ret_int (by rw [HC.out, chk_ord hlt HP.out hkb hvb H0.out HL.out]), HB⟩
    · go_wp2
      go_ret
      exact ⟨ret_int (by rw [HC.out, List.drop_of_length_le (by omega)]; rfl), hb⟩
end Go.Proofs.YtmepmiokpcddbabGreatDoor

set_option linter.unusedVariables false
set_option linter.unusedSimpArgs false
namespace Go.Proofs.YtmepmiokpcddbabGreatDoor
open Go.RowKit

/-- a key as a number of n digits to the base 27 -/
def num : Nat → List UInt8 → Nat
  | 0, _ => 0
  | _ + 1, [] => 0
  | n + 1, c :: r => (c.toNat - 96) * 27 ^ n + num n r
theorem low_dig {c : UInt8} (h : lowB c = true) : 1 ≤ c.toNat - 96 ∧ c.toNat - 96 ≤ 26 := by
  simp [lowB] at h; omega
theorem num_lt : ∀ (n : Nat) (l : List UInt8), l.all lowB = true → num n l < 27 ^ n
  | 0, l, _ => by simp [num]
  | n + 1, [], _ => by simp only [num]; exact Nat.pow_pos (by omega)
  | n + 1, c :: r, h => by
    simp only [List.all_cons, Bool.and_eq_true] at h
    have h1 := low_dig h.1
    have h2 := num_lt n r h.2
    simp only [num]
    have h3 : (c.toNat - 96) * 27 ^ n ≤ 26 * 27 ^ n := Nat.mul_le_mul_right _ h1.2
    rw [Nat.pow_succ]
    omega
theorem num_mono : ∀ (n : Nat) (l m : List UInt8), l.all lowB = true → m.all lowB = true → l.length ≤ n → m.length ≤ n → l < m → num n l < num n m
  | 0, l, m, _, _, h1, h2, h => by
    have e1 : l = [] := List.length_eq_zero_iff.1 (by omega)
    have e2 : m = [] := List.length_eq_zero_iff.1 (by omega)
    subst e1; subst e2; exact absurd h (List.lt_irrefl _)
  | n + 1, [], [], _, _, _, _, h => absurd h (List.lt_irrefl _)
  | n + 1, [], c :: r, _, hm, _, _, _ => by
    simp only [List.all_cons, Bool.and_eq_true] at hm
    have h1 := low_dig hm.1
    simp only [num]
    have h3 : 1 * 27 ^ n ≤ (c.toNat - 96) * 27 ^ n := Nat.mul_le_mul_right _ h1.1
    have h4 : 0 < 27 ^ n := Nat.pow_pos (by omega)
    omega
  | n + 1, c :: r, [], _, _, _, _, h => absurd h (List.not_lt_nil _)
  | n + 1, c :: r, d :: s, hl, hm, h1, h2, h => by
    simp only [List.all_cons, Bool.and_eq_true] at hl hm
    have c1 := low_dig hl.1
    have d1 := low_dig hm.1
    have hr := num_lt n r hl.2
    simp only [num]
    rcases List.cons_lt_cons_iff.1 h with hcd | ⟨rfl, hrs⟩
    · have hlt : c.toNat < d.toNat := UInt8.lt_iff_toNat_lt.1 hcd
      have h3 : (c.toNat - 96 + 1) * 27 ^ n ≤ (d.toNat - 96) * 27 ^ n := Nat.mul_le_mul_right _ (by omega)
      rw [Nat.add_mul] at h3
      omega
    · have := num_mono n r s hl.2 hm.2 (by simp at h1; omega) (by simp at h2; omega) hrs
      omega
theorem len_of_incr {B : Nat} : ∀ (l : List Nat) (lo : Nat), l.Pairwise (· < ·) → (∀ x ∈ l, lo ≤ x ∧ x < B) → lo ≤ B → lo + l.length ≤ B
  | [], lo, _, _, h => by simpa using h
  | x :: r, lo, hp, hb, h => by
    have hp' := List.pairwise_cons.1 hp
    have hx := hb x (by simp)
    have := len_of_incr r (x + 1) hp'.2 (fun y hy => ⟨hp'.1 y hy, (hb y (by simp [hy])).2⟩) (by omega)
    simp only [List.length_cons]
    omega
theorem Ok.small {l : List Pr} (h : Ok l) : l.length ≤ 387420489 := by
  have hk : ∀ p ∈ l, (by8 p.1).all lowB = true ∧ (by8 p.1).length ≤ 6 := fun p hp => by
    have := h.key p hp
    simp only [keyB, Bool.and_eq_true, decide_eq_true_eq] at this
    exact ⟨this.2, by have := this.1.2; simpa [by8] using this⟩
  have hp : (l.map fun p => num 6 (by8 p.1)).Pairwise (· < ·) := by
    rw [List.pairwise_map]
    refine h.srt.imp_of_mem ?_
    intro p q hp hq hlt
    exact num_mono 6 _ _ (hk p hp).1 (hk q hq).1 (hk p hp).2 (hk q hq).2 (ltB_iff.1 hlt)
  have := len_of_incr (B := 387420489) _ 0 hp (fun x hx => by
    obtain ⟨p, hp, rfl⟩ := List.mem_map.1 hx
    exact ⟨Nat.zero_le _, num_lt 6 _ (hk p hp).1⟩) (by omega)
  simpa using this
end Go.Proofs.YtmepmiokpcddbabGreatDoor

set_option linter.unusedVariables false
set_option linter.unusedSimpArgs false
namespace Go.Proofs.YtmepmiokpcddbabGreatDoor
open Go.RowKit

/-- while Part runs: the map and the owner -/
structure PaH (w : World) (g : Nat) (m : Mp) (n : Int) (wr : World) : Prop where
  mh : MH w g m wr
  xo : Box wr (g + 1) 3 #[.int .i64 n]
theorem PaH.below {w wr w' : World} {g : Nat} {m : Mp} {n : Int} (h : PaH w g m n wr) (hb : Below wr.heap.size wr w') : PaH w g m n w' := ⟨h.mh.below hb, h.xo.below hb⟩
theorem PaH.alloc {w wr : World} {g : Nat} {m : Mp} {n : Int} {o : Obj} (h : PaH w g m n wr) : PaH w g m n (wr.alloc o) := h.below ((Below.refl _ _).alloc (Nat.le_refl _) _)
theorem own_some_ne {w : World} {B : Nat} {t u : TypeId} {s : Nat} {v : Value} {n : Nat} {xs : List Value} (h : w.ownsRow B t s v n xs) {r : Nat} (hr : Ty w r u) (hne : t ≠ u) : some r ≠ v.ownBlock := by
  rcases own_ne h hr hne with h | h
  · rw [h]; simp
  · exact fun e => h e.symm
/-- what Part answers -/
def partV (cs : List ByteArray) (os : List Int) (l : List Pr) (n : Int) : List Pr × Int :=
  if chkM cs os ≠ 0 then ([], chkM cs os) else if chk ByteArray.empty l ≠ 0 then ([], chk ByteArray.empty l) else if ownB n = false then ([], 1) else (ptL cs os n l, 0)
section
variable {cs : List ByteArray} {os : List Int} {l : List Pr} {n : Int}
theorem partV_bad (h : chkM cs os ≠ 0) : partV cs os l n = ([], chkM cs os) := by unfold partV; rw [if_pos h]
theorem partV_bad2 (h : chkM cs os = 0) (k : chk ByteArray.empty l ≠ 0) : partV cs os l n = ([], chk ByteArray.empty l) := by unfold partV; rw [if_neg (by simp [h]), if_pos k]
theorem partV_arg (h : chkM cs os = 0) (k : chk ByteArray.empty l = 0) (i : ownB n = false) : partV cs os l n = ([], 1) := by unfold partV; rw [if_neg (by simp [h]), if_neg (by simp [k]), if_pos i]
theorem partV_ok (h : chkM cs os = 0) (k : chk ByteArray.empty l = 0) (i : ownB n = true) : partV cs os l n = (ptL cs os n l, 0) := by unfold partV; rw [if_neg (by simp [h]), if_neg (by simp [k]), if_neg (by simp [i])]
end
/-- pairs and an error are handed back -/
def RetPt (w : World) (r : List Pr × Int) (e : Ending) (w' : World) : Prop := ∃ A c, e = .returned (.tuple #[.slice A r.1.length c, .int .i64 r.2]) ∧ OV w' w.heap.size A c r.1 ∧ Below w.heap.size w w'

set_option maxHeartbeats 1000000 in
set_option maxRecDepth 100000 in
theorem owns_any (w0 : World) (g : Nat) (m : Mp) (n : Int) (key : ByteArray) (x : Int) (w : World) (hH : PaH w0 g m n w) (hok : OkM m.cs m.os) :
    Calls Tryz.prog 134 #[.agg #[.string key, .int .i64 x], .pointer (some ⟨g, 0, none⟩), .pointer (some ⟨g + 1, 0, none⟩)] w fun e w' => e = .returned (.bool (decide (whV m.cs m.os key = n))) ∧ Below w.heap.size w w' := by
  have b0 := (Below.refl w.heap.size w).alloc (Nat.le_refl _) (.cells #[.string key, .int .i64 x] 65)
  have y0 := Box.new w 65 #[.string key, .int .i64 x]
  replace hH := hH.below b0
  have hfew := hok.few
  have hlen := hok.len
  have hat := atC_le m.cs key
  obtain ⟨bO, oO, eO, hx1, hx2⟩ := hH.mh.ms.own (atC m.cs key) (m.os.getD (atC m.cs key) 0) (by simp [List.getD_eq_getElem?_getD, show atC m.cs key < m.os.length by omega])
  have HS := hideP (fun (wr : World) (h : PaH w0 g m n wr) (y : Box wr w.heap.size 65 #[.string key, .int .i64 x]) => show wr.cell? ⟨g, 0, none⟩ = some (.slice m.A m.cs.length m.ca) ∧ wr.cell? ⟨g, 1, none⟩ = some (.slice (some ⟨bO, oO, none⟩) m.os.length m.co) ∧ wr.cell? ⟨bO, oO + atC m.cs key, none⟩ = some (.int .i64 (whV m.cs m.os key)) ∧ wr.cell? ⟨g + 1, 0, none⟩ = some (.int .i64 n) ∧ wr.cell? ⟨w.heap.size, 0, none⟩ = some (.string key) from by
    obtain ⟨b2, o2, e2, _, c2⟩ := h.mh.ms.own (atC m.cs key) (m.os.getD (atC m.cs key) 0) (by simp [List.getD_eq_getElem?_getD, show atC m.cs key < m.os.length by omega])
    rw [eO] at e2
    injection e2 with e2
    injection e2 with e3 e4
    subst e3; subst e4
    exact ⟨h.mh.c.1, by rw [← eO]; exact h.mh.c.2, c2, h.xo.cell 0 rfl, y.cell 0 rfl⟩)
  have HP := hideP (fun (wr : World) (h : PaH w0 g m n wr) => show Calls Tryz.prog 90 #[.agg #[.slice m.A m.cs.length m.ca, .slice (some ⟨bO, oO, none⟩) m.os.length m.co], .string key] wr fun e w' => e = .returned (.int .i64 (atC m.cs key : Nat)) ∧ Below wr.heap.size wr w' from by
    rw [← eO]; exact place_any m key wr h.mh.ms hfew)
  have g1 : ((atC m.cs key : Nat) : Int) < (m.os.length : Int) := by omega
  have g2 : (0 : Int) ≤ ((atC m.cs key : Nat) : Int) := by omega
  have HB := hideP b0
  clear hx1 hx2 b0
  go_enter Tryz.func134, Tryz.ntmps134
  generalize atC m.cs key = a at HS HP g1 g2
  generalize hv : whV m.cs m.os key = v at HS
  have HV := hideP hv
  clear hv hok hfew hlen hat eO
  generalize m.cs.length = n1 at HS HP
  generalize m.os.length = n2 at HS HP g1
  go_wp2_with fail
  generalize w.alloc _ = w1 at hH y0 HB ⊢
  generalize w.heap.size = s at y0 HS ⊢
  replace hH := hH.below (Below.refl _ _).drew
  replace y0 := y0.drew
  go_region_held3 (fun w' => w'.cell? ⟨g, 0, none⟩ = some (.slice m.A n1 m.ca) ∧ w'.cell? ⟨g, 1, none⟩ = some (.slice (some ⟨bO, oO, none⟩) n2 m.co) ∧ w'.cell? ⟨bO, oO + a, none⟩ = some (.int .i64 v) ∧ w'.cell? ⟨g + 1, 0, none⟩ = some (.int .i64 n) ∧ w'.cell? ⟨s, 0, none⟩ = some (.string key)) (with_reducible exact HS.out _ hH y0) (first
    | (go_at_call 90; refine (HP.out _ hH).mono ?_; rintro e wn ⟨rfl, hbn⟩; replace hH := hH.below hbn; replace y0 := y0.below hbn))
  have hbz : Below w1.heap.size w1 wn := (Below.refl w1.heap.size w1).drew.trans hbn
  have HZ := hideP (HB.out.trans (hbz.mono HB.out.size))
  go_wp2_with fail
  go_ret
  refine ⟨ret_bool ?_, HZ.out⟩
  by_cases e : v = n <;> simp [e]
/-- while the pairs are picked -/
def PaI (w : World) (g : Nat) (m : Mp) (n : Int) (l : List Pr) (v i : Value) (wr : World) : Prop :=
  ∃ (k : Nat), k ≤ l.length ∧ i = .int .i64 k ∧ wr.ownsRow w.heap.size 65 2 v (ptL m.cs m.os n (l.take k)).length (cellsOf (ptL m.cs m.os n (l.take k))) ∧ PaH w g m n wr

set_option maxHeartbeats 2000000 in
set_option maxRecDepth 100000 in
theorem shpart_any (m : Mp) (A : Option Addr) (c : Nat) (l : List Pr) (n : Int) (w : World) (hm : MS w m) (hA : PS w w.heap.size A l) (l2 : m.os.length ≤ 9223372036854775807) (l3 : l.length < 4611686018427387904) :
    Calls Tryz.prog 103 #[.agg #[.slice m.A m.cs.length m.ca, .slice m.O m.os.length m.co], .slice A l.length c, .int .i64 n] w (RetPt w (partV m.cs m.os l n)) := by
  have b0 := ((Below.refl w.heap.size w).alloc (Nat.le_refl _) (.cells #[.slice m.A m.cs.length m.ca, .slice m.O m.os.length m.co] 28)).alloc (by simp) (.cells #[.int .i64 n] 3)
  have x1 := Box.new (w.alloc (.cells #[.slice m.A m.cs.length m.ca, .slice m.O m.os.length m.co] 28)) 3 #[.int .i64 n]
  simp only [World.size_alloc] at x1
  have hH : PaH w w.heap.size m n _ := ⟨(MH.new hm).below ((Below.refl _ _).alloc (Nat.le_refl _) _), x1⟩
  clear x1 b0
  go_enter Tryz.func103, Tryz.ntmps103
  obtain ⟨z1, z2⟩ := hH.mh.c
  go_wp2_with fail
  generalize (w.alloc _).alloc _ = w1 at hH z1 z2 ⊢
  generalize hg : w.heap.size = g at hH z1 z2 ⊢
  clear hg
  refine (shcheck_any m _ hH.mh.ms l2).mono ?_
  rintro e w2 ⟨rfl, hb2⟩
  replace hH := hH.below hb2
  clear hb2 z1 z2
  by_cases hc : chkM m.cs m.os = 0
  · have hok := chkM_ok.1 hc
    have HC := hideP hc
    rw [hc]
    clear hc
    go_wp2_with fail
    refine (check_any A c l _ ((hA.below hH.mh.be).more hH.mh.be.size) l3).mono ?_
    rintro e w3 ⟨rfl, hb3⟩
    replace hH := hH.below hb3
    clear hb3
    by_cases hd : chk ByteArray.empty l = 0
    · have hokl := chk_ok.1 hd
      have HD := hideP hd
      have hsm := hokl.small
      rw [hd]
      clear hd
      have z3 := hH.xo.cell 0 (v := .int .i64 n) rfl
      go_wp2_with fail
      refine (isown_any n _).mono ?_
      rintro e w4 ⟨rfl, rfl⟩
      clear z3
      cases hn : ownB n
      · have HV := hideP (partV_arg HC.out HD.out hn)
        have hbe := hH.mh.be
        clear hn
        go_wp2_with fail
        go_ret2
        exact ⟨none, 0, by rw [HV.out]; rfl, by rw [HV.out]; exact World.ownsRow_nil _ _ _ _, hbe⟩
      · have HV := hideP (partV_ok HC.out HD.out hn)
        clear hn
        go_wp2_with fail
        go_loopw [11, 30] (PaI w g m n l) (fun _ i _ => l.length - (intOf i).toNat)
        case atStart => exact ⟨0, Nat.zero_le _, rfl, World.ownsRow_nil _ _ _ _, hH⟩
        case round =>
          obtain ⟨k, hk, rfl, hrow, hP⟩ := hrel
          by_cases hlt : k < l.length
          · obtain ⟨b, o, rfl, hbl, c1, c2⟩ := (hA.below hP.mh.be) k _ (List.getElem?_eq_getElem hlt)
            have HT := hideP (show ptL m.cs m.os n (l.take (k + 1)) = ptL m.cs m.os n (l.take k) ++ (if whV m.cs m.os l[k].1 = n then [l[k]] else []) by rw [List.take_succ_eq_append_getElem hlt, ptL_snoc])
            have hlk : (ptL m.cs m.os n (l.take k)).length ≤ l.length := Nat.le_trans (List.length_filter_le _ _) (by rw [List.length_take]; omega)
            generalize l[k] = p at c1 c2 HT
            have g1 : (0 : Int) ≤ (k : Int) := by omega
            have g2 : (k : Int) < (l.length : Int) := by omega
            have y0 := Box.new wr 65 #[.string p.1, .int .i64 p.2]
            have hP1 := hP.alloc (o := .cells #[.string p.1, .int .i64 p.2] 65)
            have hrow1 := World.ownsRow.alloc hrow (.cells #[.string p.1, .int .i64 p.2] 65)
            clear hrow hP
            go_wp2_with fail
            generalize wr.alloc _ = w5 at y0 hP1 hrow1 ⊢
            generalize wr.heap.size = gp at y0 ⊢
            refine (owns_any w g m n p.1 p.2 _ hP1 hok).mono ?_
            rintro e w6 ⟨rfl, hb6⟩
            replace hP1 := hP1.below hb6
            replace y0 := y0.below hb6
            have hrow2 : w6.ownsRow w.heap.size 65 2 _ (ptL m.cs m.os n (l.take k)).length (cellsOf (ptL m.cs m.os n (l.take k))) := own_below hrow1 hb6
            clear hb6 hrow1
            by_cases hw : whV m.cs m.os p.1 = n
            · have dd : decide (whV m.cs m.os p.1 = n) = true := decide_eq_true hw
              rw [if_pos hw] at HT
              obtain ⟨v', w7, hrun, hown', hg', _⟩ := app_pairs (w6.alloc (.cells #[.string p.1, .int .i64 p.2] 65)) w.heap.size 58 _ _ (World.ownsRow.alloc hrow2 _) _ (some ⟨w6.heap.size, 0, none⟩) 1 [p] (PS.one w6 p.1 p.2 65) (by simp; omega) (by have := hP1.mh.be.size; simp; omega)
              have hP2 := hP1.alloc (o := .cells #[.string p.1, .int .i64 p.2] 65)
              have hb7 : Below w.heap.size w w7 := hP2.mh.be.grown hg' hP2.mh.be.size (fun j hj => (World.ownsRow.lt hrow2 j hj).1)
              have hra := World.ownsRow.alloc hrow2 (.cells #[.string p.1, .int .i64 p.2] 65)
              have hP7 : PaH w g m n w7 := ⟨⟨hP2.mh.x0.grown hg' (own_some_ne hra hP2.mh.x0.ty (by decide)), hm.below hb7, hb7⟩, hP2.xo.grown hg' (own_some_ne hra hP2.xo.ty (by decide))⟩
              rw [← HT.out] at hown'
              have HR := hideP hrun
              have u0 := y0.cell 0 (v := .string p.1) rfl
              have u1 := y0.cell 1 (v := .int .i64 p.2) rfl
              clear hrun hrow2 hP1 hP2 hg' hra hw
              go_wp2_with (at_builtin; refine Lib.wpList_append_run _ rfl _ _ _ _ rfl _ _ rfl rfl _ _ HR.out ?_)
              go_roundw
              case rel => exact ⟨k + 1, by omega, by go_num, hown', hP7⟩
              case measure => simp [intOf]; omega
            · have dd : decide (whV m.cs m.os p.1 = n) = false := decide_eq_false hw
              rw [if_neg hw, List.append_nil] at HT
              clear hw
              rw [← HT.out] at hrow2
              go_wp2_with fail
              go_roundw
              case rel => exact ⟨k + 1, by omega, by go_num, hrow2, hP1⟩
              case measure => simp [intOf]; omega
          · have hkk : l.take k = l := List.take_of_length_le (by omega)
            rw [hkk] at hrow
            obtain ⟨A', c', rfl, hov⟩ := OV.of_own hrow
            have hbe := hP.mh.be
            go_wp2_with fail
            go_ret2
            exact ⟨A', c', by rw [HV.out]; rfl, by rw [HV.out]; exact hov, hbe⟩
    · have d : (chk ByteArray.empty l != 0) = true := by simp [hd]
      have HV := hideP (partV_bad2 (n := n) HC.out hd)
      have hbe := hH.mh.be
      clear hd
      generalize chk ByteArray.empty l = q at d HV
      go_wp2_with fail
      go_ret2
      exact ⟨none, 0, by rw [HV.out]; rfl, by rw [HV.out]; exact World.ownsRow_nil _ _ _ _, hbe⟩
  · have d : (chkM m.cs m.os != 0) = true := by simp [hc]
    have HV := hideP (partV_bad (l := l) (n := n) hc)
    have hbe := hH.mh.be
    clear hc
    generalize chkM m.cs m.os = q at d HV
    go_wp2_with fail
    go_ret2
    exact ⟨none, 0, by rw [HV.out]; rfl, by rw [HV.out]; exact World.ownsRow_nil _ _ _ _, hbe⟩
end Go.Proofs.YtmepmiokpcddbabGreatDoor
