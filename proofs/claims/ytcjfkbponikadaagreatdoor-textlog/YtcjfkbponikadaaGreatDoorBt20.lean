/-
  text.Log: what it answers.
  A number within bounds, plainly (no program in it).
  What rokeep.Map makes, plainly (no program in it).
  rokeep.Within.
-/
import Derived.Test.YtcjfkbponikadaaGreatDoorBt18
import Derived.Test.YtcjfkbponikadaaGreatDoorBt19
import Derived.WalkKit
import Derived.WalkSpells
import Derived.Test.YtcjfkbponikadaaGreatDoorBt6
import Derived.Test.YtcjfkbponikadaaGreatDoorProg
import Derived.Test.YtcjfkbponikadaaGreatDoorBt2
import Derived.WalkLawsBesides
set_option linter.unusedVariables false
set_option linter.unusedSimpArgs false
namespace Go.Proofs.YtcjfkbponikadaaGreatDoor
open Go.RowKit
open Go.Lib hiding intOf

/-- what Log hands back -/
def RetLg (w : World) (l : List UInt8) (e : Ending) (w' : World) : Prop :=
  ∃ (q : Int) (A : Option Addr) (c : Nat) (xs : List Em) (k : Nat), LogIs l q (xs.map entOf) k ∧ e = .returned (.tuple #[.slice A xs.length c, .int .i64 (k : Nat), .int .i64 q]) ∧ EW w' w.heap.size A c xs ∧ Below w.heap.size w w'
/-- while the lines are read -/
def LgI (w : World) (l : List UInt8) (s i : Value) (wr : World) : Prop :=
  ∃ (A : Option Addr) (c : Nat) (xs : List Em) (k : Nat), s = .slice A xs.length c ∧ i = .int .i64 (k : Nat) ∧ LogTo l (xs.map entOf) k ∧ EW wr w.heap.size A c xs ∧ Below w.heap.size w wr
set_option maxHeartbeats 2000000 in
set_option maxRecDepth 100000 in
theorem log_any (s : ByteArray) (w : World) (hg : Gl w) :
    Calls Tryz.prog 21 #[.string s] w (RetLg w s.data.toList) := by
  have hsl : s.data.toList.length = s.size := by simp
  by_cases hbig : 20000 < s.size
  · have g1 : (20000 : Int) < (s.size : Int) := by omega
    have HL := hideP (show LogIs s.data.toList 2 (([] : List Em).map entOf) 0 from .large (by omega))
    clear hsl
    go_enter Tryz.func21, Tryz.ntmps21
    go_wp2_with fail
    go_ret3
    exact ⟨2, none, 0, [], 0, HL.out, rfl, EW.nil _ _, Below.refl _ _⟩
  · have g1 : ¬ (20000 : Int) < (s.size : Int) := by omega
    have HLE := hideP (show s.data.toList.length ≤ 20000 by omega)
    have HSL := hideP hsl
    have hs2 : s.size ≤ 20000 := by omega
    clear hsl hbig
    go_enter Tryz.func21, Tryz.ntmps21
    go_wp2_with fail
    go_loopw [5, 6] (LgI w s.data.toList) (fun _ i _ => s.size + 1 - (intOf i).toNat)
    case atStart => exact ⟨none, 0, [], 0, rfl, rfl, .nil, EW.nil _ _, Below.refl _ _⟩
    case round =>
      obtain ⟨A, c, xs, k, rfl, rfl, hto, hW, hb⟩ := hrel
      have hkl := hto.le
      have hrm := hto.room
      rw [HSL.out] at hkl
      rw [List.length_map] at hrm
      have g2 : (0 : Int) ≤ (k : Int) := by omega
      have g3 : (k : Int) ≤ (s.size : Int) := by omega
      have hxl : xs.length ≤ 20000 := by omega
      have hsz : (s.extract k s.size).size < 4294967281 := by
        have h1 : (s.extract k s.size).data.toList.length = (s.extract k s.size).size := by simp
        rw [ext_drop1, List.length_drop] at h1
        have := HSL.out
        omega
      have HR := hideP (rdentry_any (s.extract k s.size) wr (hg.below hb) hsz)
      unfold RetRe at HR
      rw [ext_drop1] at HR
      have hlen := fun x n (h : rdE (s.data.toList.drop k) = (0, x, n)) => rdE_len h
      rw [List.length_drop, HSL.out] at hlen
      obtain ⟨q, en, n, hq⟩ : ∃ q en n, rdE (s.data.toList.drop k) = (q, en, n) := ⟨_, _, _, rfl⟩
      rw [hq] at HR hlen
      have HQ := hideP hq
      have HT := hideP hto
      clear hq hto hrm hsz
      simp only at HR
      go_wp2_with fail
      refine HR.out.mono ?_
      clear HR
      rintro e w2 ⟨x, rfl, hx, hbd, heo, hb2⟩
      have b2 := hb.trans (hb2.mono hb.size)
      have hW2 := hW.below hb2
      have HX := hideP hx
      clear hx hW
      by_cases h7 : q = 7
      · subst h7
        have HL := hideP (LogIs.ok HLE.out HT.out (by rw [HQ.out]))
        have al := b2.alloc b2.size (.cells (emC x) 45)
        have hW3 := hW2.below ((Below.refl w2.heap.size w2).alloc (Nat.le_refl _) (.cells (emC x) 45))
        clear HX heo hbd hlen
        obtain ⟨D, cd, d, isM, ⟨A2, ca, cs, O, co, os⟩⟩ := x
        unfold emV
        unfold emC at al hW3 ⊢
        simp only at al hW3 ⊢
        go_wp2_with fail
        go_ret3
        exact ⟨0, A, c, xs, k, HL.out, rfl, hW3, al⟩
      · by_cases h0 : q = 0
        · subst h0
          obtain ⟨hn2, hnl⟩ := hlen en n rfl
          have HT2 := hideP (HT.out.snoc HQ.out)
          have al := (Below.refl w2.heap.size w2).alloc (Nat.le_refl _) (.cells (emC x) 45)
          have b3 := b2.alloc b2.size (.cells (emC x) 45)
          have hW3 := hW2.below al
          have heo3 := (heo.below al).mono hb.size
          have xe := Box.new w2 45 (emC x)
          obtain ⟨A', c', w4, hrun, hW4, _, hbel, _⟩ := app_ent _ w.heap.size 49 A c xs hW3 x heo3 hbd (by omega) b3.size
          have b4 := hbel _ _ (Nat.le_refl _) b3
          simp only [World.size_alloc] at hrun
          have HRN := hideP hrun
          have g4 : IntKind.i64.wrap ((k : Int) + (n : Int)) = (k : Int) + (n : Int) := by simp only [IntKind.wrap_i64]; omega
          have HXE := hideP (show (xs ++ [x]).map entOf = xs.map entOf ++ [en] by rw [List.map_append, HX.out]; rfl)
          clear hrun hW3 heo3 heo hbel al b3 hbd hb2 hW2 hlen HX
          generalize hxx : xs ++ [x] = xx at HRN hW4 HXE
          clear hxx
          obtain ⟨D, cd, d, isM, ⟨A2, ca, cs, O, co, os⟩⟩ := x
          unfold emV
          unfold emC at xe HRN ⊢
          simp only at xe HRN ⊢
          have e0 := xe.cell 0 (v := .slice D d.length cd) rfl
          have e1 := xe.cell 1 (v := .bool isM) rfl
          have e2 := xe.cell 2 (v := .slice A2 cs.length ca) rfl
          have e3 := xe.cell 3 (v := .slice O os.length co) rfl
          clear xe
          go_wp2_with (at_builtin; refine Lib.wpList_append_run _ rfl _ _ _ _ rfl _ _ rfl rfl _ _ HRN.out ?_)
          go_roundw
          case rel => exact ⟨A', c', xx, k + n, rfl, by go_num, by rw [HXE.out]; exact HT2.out, hW4, b4⟩
          case measure => simp [intOf]; omega
        · have HL := hideP (show LogIs s.data.toList q (([] : List Em).map entOf) 0 from LogIs.bad HLE.out HT.out (by rw [HQ.out]) h0 h7)
          have al := b2.alloc b2.size (.cells (emC x) 45)
          have d1 : (q == 7) = false := by simpa using h7
          have d2 : (q != 0) = true := by simpa using h0
          clear HX heo hbd hlen HQ h7 h0
          obtain ⟨D, cd, d, isM, ⟨A2, ca, cs, O, co, os⟩⟩ := x
          unfold emV
          unfold emC at al ⊢
          simp only at al ⊢
          go_wp2_with fail
          go_ret3
          exact ⟨q, none, 0, [], 0, HL.out, rfl, EW.nil _ _, al⟩
end Go.Proofs.YtcjfkbponikadaaGreatDoor

set_option linter.unusedVariables false
set_option linter.unusedSimpArgs false
namespace Go.Proofs.YtcjfkbponikadaaGreatDoor
open Go.RowKit

/-- what Within answers -/
def wi (k : Int) (n : Nat) : Nat := ((IntKind.u64.wrap k).tmod n).toNat
theorem wrap_u64_nonneg (k : Int) : 0 ≤ IntKind.u64.wrap k := by simp [IntKind.wrap_u64]; omega
theorem wi_lt (k : Int) (n : Nat) (h : 1 ≤ n) : wi k n < n := by
  have h0 := wrap_u64_nonneg k
  unfold wi
  have := Int.tmod_lt_of_pos (IntKind.u64.wrap k) (show (0 : Int) < n by omega)
  omega
theorem wi_eq (k : Int) (n : Nat) (h : 1 ≤ n) (h2 : n ≤ 1000000) : wrap64 ((IntKind.u64.wrap k).tmod (n : Int)) = (wi k n : Int) := by
  have h0 := wrap_u64_nonneg k
  have h1 := Int.tmod_lt_of_pos (IntKind.u64.wrap k) (show (0 : Int) < n by omega)
  have h3 := Int.tmod_nonneg (n : Int) h0
  unfold wi wrap64
  omega
end Go.Proofs.YtcjfkbponikadaaGreatDoor

set_option linter.unusedVariables false
set_option linter.unusedSimpArgs false
namespace Go.Proofs.YtcjfkbponikadaaGreatDoor

def cutsL : List ByteArray := [⟨#[97]⟩, ⟨#[98]⟩, ⟨#[98, 98]⟩, ⟨#[100]⟩, ⟨#[109]⟩, ⟨#[112]⟩]
theorem cutsL_ok : cutsB ByteArray.empty cutsL = true := by decide +kernel
/-- the i-th cut is taken -/
def mpT (zs : List Int) (i : Nat) : Bool := decide (i < zs.length) && decide (0 < wi (zs.getD i 0) 3)
/-- the map of the first i cuts -/
def mapR (zs : List Int) : Nat → List ByteArray × List Nat
  | 0 => ([], [0])
  | i + 1 => if mpT zs i = true then ((mapR zs i).1 ++ [cutsL.getD i ByteArray.empty], (mapR zs i).2 ++ [wi ((zs.getD i 0).tdiv 3) 4]) else mapR zs i
theorem mapR_len (zs : List Int) (i : Nat) : (mapR zs i).2.length = (mapR zs i).1.length + 1 := by
  induction i with
  | zero => rfl
  | succ i ih => simp only [mapR]; split <;> simp [ih]
theorem mapR_few (zs : List Int) (i : Nat) : (mapR zs i).1.length ≤ i := by
  induction i with
  | zero => simp [mapR]
  | succ i ih =>
    simp only [mapR]
    split
    · rw [List.length_append, List.length_singleton]; omega
    · omega
theorem mapR_sub (zs : List Int) {i : Nat} (hi : i ≤ 6) : (mapR zs i).1.Sublist (cutsL.take i) := by
  induction i with
  | zero => simp [mapR]
  | succ i ih =>
    have hl : i < cutsL.length := by simp [cutsL]; omega
    have e : cutsL.take (i + 1) = cutsL.take i ++ [cutsL.getD i ByteArray.empty] := by
      rw [List.take_succ_eq_append_getElem hl]; simp [List.getD_eq_getElem?_getD, hl]
    rw [e]
    simp only [mapR]
    split
    · exact (ih (by omega)).append (List.Sublist.refl _)
    · exact (ih (by omega)).trans (List.sublist_append_left _ _)
theorem mapR_own (zs : List Int) (i : Nat) : ∀ n ∈ (mapR zs i).2, n ≤ 3 := by
  induction i with
  | zero => intro n hn; simp [mapR] at hn; omega
  | succ i ih =>
    simp only [mapR]
    split
    · intro n hn
      rcases List.mem_append.1 hn with hn | hn
      · exact ih n hn
      · rw [List.mem_singleton.1 hn]
        have := wi_lt ((zs.getD i 0).tdiv 3) 4 (by decide)
        omega
    · exact ih
theorem mapR_ok (zs : List Int) : OkM (mapR zs 6).1 ((mapR zs 6).2.map fun (k : Nat) => (k : Int)) := by
  have hs := mapR_sub zs (i := 6) (by decide)
  obtain ⟨h1, h2⟩ := cutsB_iff.1 cutsL_ok
  have ht : cutsL.take 6 = cutsL := rfl
  rw [ht] at hs
  refine ⟨by have := mapR_few zs 6; omega, by rw [List.length_map, mapR_len], cutsB_iff.2 ⟨fun k hk => h1 k (hs.subset hk), h2.sublist hs⟩, fun n hn => ?_⟩
  obtain ⟨k, hk, rfl⟩ := List.mem_map.1 hn
  have := mapR_own zs 6 k hk
  omega
end Go.Proofs.YtcjfkbponikadaaGreatDoor

set_option linter.unusedVariables false
set_option linter.unusedSimpArgs false
namespace Go.Proofs.YtcjfkbponikadaaGreatDoor
open Go.RowKit

set_option maxHeartbeats 400000 in
theorem within_any (k : Int) (n : Nat) (h1 : 1 ≤ n) (h2 : n ≤ 1000000) (w : World) :
    Calls Tryz.prog 30 #[.int .i64 k, .int .i64 n] w fun e w' => e = .returned (.int .i64 (wi k n)) ∧ w = w' := by
  go_enter Tryz.func30, Tryz.ntmps30
  go_wp2
  go_ret
  exact ⟨ret_int (wi_eq k n h1 h2), rfl⟩
end Go.Proofs.YtcjfkbponikadaaGreatDoor
